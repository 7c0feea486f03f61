/- Own text. Which trees are exports from elsewhere: the document's answer. -/
import Derived.Test.YtggahoefbcnaiaaDoorGJ
import Derived.Deep.RegionHeld3
namespace Go.Proofs.YtggahoefbcnaiaaDoor
open Go.RowKit
set_option linter.unusedVariables false
set_option linter.unusedSimpArgs false

/-- a part of an export; as it may stand in one of so many parts, with that text and number. -/
def foB (y : Nd) : Bool := (y.k == 65) && (y.n == 0) && ((y.ks.length : Int) == 1) && y.ks.all (fun z => noB z || (naB true z && !(z.t.toList == y.t.toList)))
def elB (c : Nat) (t : ByteArray) (n : Int) (y : Nd) : Bool := foB y && (if (y.t.toList == [42]) = true then decide (c ≤ 1) && !(t.toList == []) && (n == 0) else propT false y.t.data.toList && (!(t.toList == []) || idT false y.t))
set_option maxRecDepth 100000 in
set_option maxHeartbeats 16000000 in
theorem from_0 (t : ByteArray) (l : List Nd) (hX : ∀ z ∈ l, z.t.size ≤ 4194304) (hX2 : ∀ z ∈ l, ∀ u ∈ z.ks, u.t.size ≤ 4194304) (ht : t.size ≤ 4194304) (h0 : 0 < l.length) (hl : l.length ≤ 4194304) (a : Option Addr) (c : Nat) (w : World) (S : Nat → Prop) (hx : LAt w S (.slice a l.length c) l) :
    Calls Tryd.prog 56 #[nv 64 t 0 a l.length c] w fun e w' => e = .returned (.bool (validL t.data.toList && l.all (elB l.length t 0))) ∧ Below w.heap.size w w' := by
  have CP := fun W => rvalid_any t W (by omega)
  have h0' : ((l.length : Int) == 0) = false := lenF l 0 (by omega)
  generalize validL t.data.toList = p at *
  obtain ⟨ax, cx, bx, ox, fx, e, px, qx, rx⟩ := hx.op
  obtain ⟨rfl, rfl⟩ : a = ax ∧ c = cx := by injection e with e1 e2 e3; exact ⟨e1, e3⟩
  clear e
  obtain ⟨rfl, hSx, hbx⟩ := px h0
  clear px h0
  have X0 : (w.alloc (Obj.cells #[Value.int IntKind.i64 64, Value.string t, Value.int IntKind.i64 0, Value.slice (some ⟨bx, ox, none⟩) l.length c] 24)).heap[w.heap.size]? = some (.cells #[Value.int IntKind.i64 64, Value.string t, Value.int IntKind.i64 0, Value.slice (some ⟨bx, ox, none⟩) l.length c] 24 (0, 0)) := hnew _ rfl
  have kp : Hid (∀ W', Below (w.heap.size + 1) (w.alloc (Obj.cells #[Value.int IntKind.i64 64, Value.string t, Value.int IntKind.i64 0, Value.slice (some ⟨bx, ox, none⟩) l.length c] 24)) W' → (W'.cell? ⟨w.heap.size, 0, none⟩ = some (.int .i64 64) ∧ W'.cell? ⟨w.heap.size, 1, none⟩ = some (.string t) ∧ W'.cell? ⟨w.heap.size, 2, none⟩ = some (.int .i64 0) ∧ W'.cell? ⟨w.heap.size, 3, none⟩ = some (.slice (some ⟨bx, ox, none⟩) l.length c))) := fun W' b => (box4 ((b.block _ (by omega)).trans X0)).1
  have kb : Hid (∀ W', Below (w.heap.size + 1) (w.alloc (Obj.cells #[Value.int IntKind.i64 64, Value.string t, Value.int IntKind.i64 0, Value.slice (some ⟨bx, ox, none⟩) l.length c] 24)) W' → Below w.heap.size w W' ∧ w.heap.size + 1 ≤ W'.heap.size) := fun W' b => ⟨(bel_a w _).trans (b.mono (by omega)), by have := b.size; simpa using this⟩
  have kr : Hid (Below (w.heap.size + 1) (w.alloc (Obj.cells #[Value.int IntKind.i64 64, Value.string t, Value.int IntKind.i64 0, Value.slice (some ⟨bx, ox, none⟩) l.length c] 24)) (w.alloc (Obj.cells #[Value.int IntKind.i64 64, Value.string t, Value.int IntKind.i64 0, Value.slice (some ⟨bx, ox, none⟩) l.length c] 24))) := Below.refl _ _
  clear X0
  go_enter Tryd.func56, Tryd.ntmps56
  cases p with
  | false =>
    go_wp2_with (go_at_call 45; refine (CP _).mono ?_; rintro e W1 ⟨rfl, b1⟩)
    go_ret
    exact ⟨ret_b (by simp), (bel_a w _).trans (b1.mono (by simp))⟩
  | true =>
  go_wp2_with (go_at_call 45; refine (CP _).mono ?_; rintro e W1 ⟨rfl, b1⟩; have k1 := kr.out.trans (b1.mono (by simp)); obtain ⟨_, _, _, _⟩ := kp.out _ k1)
  clear b1
  generalize w.alloc (Obj.cells #[Value.int IntKind.i64 64, Value.string t, Value.int IntKind.i64 0, Value.slice (some ⟨bx, ox, none⟩) l.length c] 24) = W0 at *
  go_loopg [3] l.length (fun gk v3 wr => ∃ (k : Nat), v3 = .int .i64 (k : Nat) ∧ Hid (gk + k = l.length) ∧ Below (w.heap.size + 1) W0 wr ∧ Hid (∀ y ∈ l.take k, elB l.length t 0 y = true))
  case atStart => exact ⟨0, rfl, by simp [Hid], k1, by simp [Hid]⟩
  case round =>
    obtain ⟨k, rfl, hk, bel0, HT⟩ := hrel
    obtain ⟨bel, sz⟩ := kb.out _ bel0
    have hkk : k ≤ l.length := by have := hk.out; omega
    obtain ⟨n1, n2, n3, n4⟩ := kp.out _ bel0
    by_cases hkl : k < l.length
    · have hm := List.getElem_mem hkl
      have HS : Hid (l.take (k + 1) = l.take k ++ [l[k]]) := List.take_succ_eq_append_getElem hkl
      have hX1 := hX _ hm
      have hX3 := hX2 _ hm
      have HM : Hid (l[k] ∈ l) := hm
      have hr := rx k hkl
      have hq := qx k hkl
      clear hm
      generalize l[k] = y at *
      generalize fx k = fk at *
      obtain ⟨ak, ck, rfl⟩ := hr.sl
      have C1 := q_prop w y.t hX1
      have C4 := q_id w y.t hX1
      have HB : Hid (elB l.length t 0 y = false → l.all (elB l.length t 0) = false) := fun h => List.all_eq_false.2 ⟨y, HM.out, by rw [h]; decide⟩
      have HG : Hid (elB l.length t 0 y = true → ∀ z ∈ l.take (k + 1), elB l.length t 0 z = true) := fun h z hz => by
        rw [HS.out] at hz
        rcases List.mem_append.1 hz with hz | hz
        · exact HT.out z hz
        · obtain rfl : z = y := by simpa using hz
          exact h
      have HP : Hid (elB l.length t 0 y = (((y.k == 65) && (y.n == 0) && ((y.ks.length : Int) == 1) && y.ks.all (fun z => noB z || (naB true z && !(z.t.toList == y.t.toList)))) && (if (y.t.toList == [42]) = true then decide (l.length ≤ 1) && !(t.toList == []) && ((0 : Int) == 0) else propT false y.t.data.toList && (!(t.toList == []) || idT false y.t)))) := rfl
      obtain ⟨u1, u2, u3, u4⟩ := (kid_at hq hr hbx bel).1
      clear hX hX2 qx rx HM HS HT hq
      by_cases h10 : y.k = 65
      · rw [h10] at u1 HP
        by_cases hn : y.n = 0
        · rw [hn] at u3 HP
          by_cases h1 : y.ks.length = 1
          · obtain ⟨z, hz⟩ := List.length_eq_one_iff.1 h1
            have hCz := hX3 z (by rw [hz]; simp)
            rw [hz] at hr HP
            obtain ⟨bz, oz, cz, az, rfl, hbz, hgz, hcz⟩ := one_at hr
            have HZ : Hid (∀ W, Below w.heap.size w W → W.cell? ⟨bz, oz, none⟩ = some (.int .i64 z.k) ∧ W.cell? ⟨bz, oz + 1, none⟩ = some (.string z.t) ∧ W.cell? ⟨bz, oz + 2, none⟩ = some (.int .i64 z.n) ∧ W.cell? ⟨bz, oz + 3, none⟩ = some (.slice az z.ks.length cz)) := hcz
            have C2 : Hid (QC 54 w (nv z.k z.t z.n az z.ks.length cz) (noB z)) := q_no
            have C3 : Hid (QB 57 w (nv z.k z.t z.n az z.ks.length cz) true (naB true z)) := q_na true hCz
            clear hcz hCz hX3 hgz hr
            rw [h1] at u4
            have HP2 : Hid (elB l.length t 0 y = ((noB z || (naB true z && !(z.t.toList == y.t.toList))) && (if (y.t.toList == [42]) = true then decide (l.length ≤ 1) && !(t.toList == []) && ((0 : Int) == 0) else propT false y.t.data.toList && (!(t.toList == []) || idT false y.t)))) := by show _ = _; rw [HP.out]; simp
            clear HP hz
            generalize noB z = nz at *
            generalize naB true z = az2 at *
            cases nz with
            | true =>
              have HP : Hid (elB l.length t 0 y = (if (y.t.toList == [42]) = true then decide (l.length ≤ 1) && !(t.toList == []) && ((0 : Int) == 0) else propT false y.t.data.toList && (!(t.toList == []) || idT false y.t))) := HP2.out
              clear HP2
              go_wp2_with fail
              obtain ⟨WP, hWP⟩ : ∃ W, wr.alloc (Obj.cells #[Value.int IntKind.i64 65, Value.string y.t, Value.int IntKind.i64 0, Value.slice (some ⟨bz, oz, none⟩) 1 ck] 24) = W := ⟨_, rfl⟩
              have cP : Below wr.heap.size wr WP := by rw [← hWP]; exact bel_a _ _
              have mP : WP.heap[wr.heap.size]? = some (.cells #[Value.int IntKind.i64 65, Value.string y.t, Value.int IntKind.i64 0, Value.slice (some ⟨bz, oz, none⟩) 1 ck] 24 (0, 0)) := by rw [← hWP]; exact heap_alloc_new _ _
              rw [hWP]
              clear hWP
              have lP : wr.heap.size < WP.heap.size := (Array.getElem?_eq_some_iff.1 mP).1
              have up : Hid (∀ W', Below WP.heap.size WP W' → Below wr.heap.size wr W') := fun W' b => cP.trans (b.mono cP.size)
              have cs : Hid (∀ W', Below WP.heap.size WP W' → (W'.cell? ⟨wr.heap.size, 0, none⟩ = some (.int .i64 65) ∧ W'.cell? ⟨wr.heap.size, 1, none⟩ = some (.string y.t) ∧ W'.cell? ⟨wr.heap.size, 2, none⟩ = some (.int .i64 0) ∧ W'.cell? ⟨wr.heap.size, 3, none⟩ = some (.slice (some ⟨bz, oz, none⟩) 1 ck)) ∧ (W'.cell? ⟨bz, oz, none⟩ = some (.int .i64 z.k) ∧ W'.cell? ⟨bz, oz + 1, none⟩ = some (.string z.t) ∧ W'.cell? ⟨bz, oz + 2, none⟩ = some (.int .i64 z.n) ∧ W'.cell? ⟨bz, oz + 3, none⟩ = some (.slice az z.ks.length cz))) := fun W' b => ⟨(box4 ((b.block _ lP).trans mP)).1, HZ.out _ (bel.trans ((up.out _ b).mono bel.size))⟩
              clear mP
              have B0 : Below WP.heap.size WP WP.drew := (Below.refl _ _).drew
              have hS0 := cs.out _ B0
              refine wp_region_noPanic ?_
              refine wp_region_held_drew (S := fun W' => (W'.cell? ⟨wr.heap.size, 0, none⟩ = some (.int .i64 65) ∧ W'.cell? ⟨wr.heap.size, 1, none⟩ = some (.string y.t) ∧ W'.cell? ⟨wr.heap.size, 2, none⟩ = some (.int .i64 0) ∧ W'.cell? ⟨wr.heap.size, 3, none⟩ = some (.slice (some ⟨bz, oz, none⟩) 1 ck)) ∧ (W'.cell? ⟨bz, oz, none⟩ = some (.int .i64 z.k) ∧ W'.cell? ⟨bz, oz + 1, none⟩ = some (.string z.t) ∧ W'.cell? ⟨bz, oz + 2, none⟩ = some (.int .i64 z.n) ∧ W'.cell? ⟨bz, oz + 3, none⟩ = some (.slice az z.ks.length cz))) (by kernel_rfl) hS0 (fun hHeld => ?_)
              refine wpAnyH_take (i := 0) (v := ?zv1x0) rfl (by kernel_rfl) (by kernel_rfl) (by kernel_rfl) (fun _ _ _ h => h) (Or.inl ⟨by rfl, ?zy1x0⟩) (by assumption) ?zr1x0
              case zy1x0 => (intro w hSw; (try dsimp only at hSw); (try simp only [List.getElem_toArray, List.getElem_cons_zero, List.getElem_cons_succ]); go_simp; first | done | with_reducible rfl)
              simp only [Act.put, List.getElem_toArray, List.getElem_cons_zero, List.getElem_cons_succ, List.setIfInBounds_toArray, List.set_cons_zero, List.set_cons_succ]
              refine wpAnyH_take (i := 1) (v := ?zv1x1) rfl (by kernel_rfl) (by kernel_rfl) (by kernel_rfl) (fun _ _ _ h => h) (Or.inl ⟨by rfl, ?zy1x1⟩) (by assumption) ?zr1x1
              case zy1x1 => (intro w hSw; (try dsimp only at hSw); (try simp only [List.getElem_toArray, List.getElem_cons_zero, List.getElem_cons_succ]); go_simp; first | done | with_reducible rfl)
              simp only [Act.put, List.getElem_toArray, List.getElem_cons_zero, List.getElem_cons_succ, List.setIfInBounds_toArray, List.set_cons_zero, List.set_cons_succ]
              refine wpAnyH_take (i := 2) (v := ?zv1x2) rfl (by kernel_rfl) (by kernel_rfl) (by kernel_rfl) (fun _ _ _ h => h) (Or.inl ⟨by rfl, ?zy1x2⟩) (by assumption) ?zr1x2
              case zy1x2 => (intro w hSw; (try dsimp only at hSw); (try simp only [List.getElem_toArray, List.getElem_cons_zero, List.getElem_cons_succ]); go_simp; first | done | with_reducible rfl)
              simp only [Act.put, List.getElem_toArray, List.getElem_cons_zero, List.getElem_cons_succ, List.setIfInBounds_toArray, List.set_cons_zero, List.set_cons_succ]
              refine wpAnyH_take (i := 3) (v := ?zv1x3) rfl (by kernel_rfl) (by kernel_rfl) (by kernel_rfl) (fun _ _ _ h => h) (Or.inl ⟨by rfl, ?zy1x3⟩) (by assumption) ?zr1x3
              case zy1x3 => (intro w hSw; (try dsimp only at hSw); (try simp only [List.getElem_toArray, List.getElem_cons_zero, List.getElem_cons_succ]); go_simp; first | done | with_reducible rfl)
              simp only [Act.put, List.getElem_toArray, List.getElem_cons_zero, List.getElem_cons_succ, List.setIfInBounds_toArray, List.set_cons_zero, List.set_cons_succ]
              refine wpAnyH_take (i := 4) (v := ?zv1x4) rfl (by kernel_rfl) (by kernel_rfl) (by kernel_rfl) (fun _ _ _ h => h) (Or.inl ⟨by rfl, ?zy1x4⟩) (by assumption) ?zr1x4
              case zy1x4 => (intro w hSw; (try dsimp only at hSw); (try simp only [List.getElem_toArray, List.getElem_cons_zero, List.getElem_cons_succ]); go_simp; first | done | with_reducible rfl)
              simp only [Act.put, List.getElem_toArray, List.getElem_cons_zero, List.getElem_cons_succ, List.setIfInBounds_toArray, List.set_cons_zero, List.set_cons_succ]
              refine wpAnyH_take (i := 5) (v := ?zv1x5) rfl (by kernel_rfl) (by kernel_rfl) (by kernel_rfl) (fun _ _ _ h => h) (Or.inl ⟨by rfl, ?zy1x5⟩) (by assumption) ?zr1x5
              case zy1x5 => (intro w hSw; (try dsimp only at hSw); (try simp only [List.getElem_toArray, List.getElem_cons_zero, List.getElem_cons_succ]); go_simp; first | done | with_reducible rfl)
              simp only [Act.put, List.getElem_toArray, List.getElem_cons_zero, List.getElem_cons_succ, List.setIfInBounds_toArray, List.set_cons_zero, List.set_cons_succ]
              refine wpAnyH_take (i := 6) (v := ?zv1x6) rfl (by kernel_rfl) (by kernel_rfl) (by kernel_rfl) (fun _ _ _ h => h) (Or.inl ⟨by rfl, ?zy1x6⟩) (by assumption) ?zr1x6
              case zy1x6 => (intro w hSw; (try dsimp only at hSw); (try simp only [List.getElem_toArray, List.getElem_cons_zero, List.getElem_cons_succ]); go_simp; first | done | with_reducible rfl)
              simp only [Act.put, List.getElem_toArray, List.getElem_cons_zero, List.getElem_cons_succ, List.setIfInBounds_toArray, List.set_cons_zero, List.set_cons_succ]
              refine wpAnyH_take (i := 7) (v := ?zv1x7) rfl (by kernel_rfl) (by kernel_rfl) (by kernel_rfl) (fun _ _ _ h => h) (Or.inl ⟨by rfl, ?zy1x7⟩) (by assumption) ?zr1x7
              case zy1x7 => (intro w hSw; (try dsimp only at hSw); (try simp only [List.getElem_toArray, List.getElem_cons_zero, List.getElem_cons_succ]); go_simp; first | done | with_reducible rfl)
              simp only [Act.put, List.getElem_toArray, List.getElem_cons_zero, List.getElem_cons_succ, List.setIfInBounds_toArray, List.set_cons_zero, List.set_cons_succ]
              refine wpAnyH_take (i := 8) (v := ?zv1x8) rfl (by kernel_rfl) (by kernel_rfl) (by kernel_rfl) (fun _ _ _ h => h) (Or.inl ⟨by rfl, ?zy1x8⟩) (by assumption) ?zr1x8
              case zy1x8 => (intro w hSw; (try dsimp only at hSw); (try simp only [List.getElem_toArray, List.getElem_cons_zero, List.getElem_cons_succ]); go_simp; first | done | with_reducible rfl)
              simp only [Act.put, List.getElem_toArray, List.getElem_cons_zero, List.getElem_cons_succ, List.setIfInBounds_toArray, List.set_cons_zero, List.set_cons_succ]
              refine wpAnyH_take (i := 9) (v := ?zv1x9) rfl (by kernel_rfl) (by kernel_rfl) (by kernel_rfl) (fun _ _ _ h => h) (Or.inl ⟨by rfl, ?zy1x9⟩) (by assumption) ?zr1x9
              case zy1x9 => (intro w hSw; (try dsimp only at hSw); (try simp only [List.getElem_toArray, List.getElem_cons_zero, List.getElem_cons_succ]); go_simp; first | done | with_reducible rfl)
              simp only [Act.put, List.getElem_toArray, List.getElem_cons_zero, List.getElem_cons_succ, List.setIfInBounds_toArray, List.set_cons_zero, List.set_cons_succ]
              refine wpAnyH_take (i := 10) (v := ?zv1x10) rfl (by kernel_rfl) (by kernel_rfl) (by kernel_rfl) (fun _ _ _ h => h) (Or.inl ⟨by rfl, ?zy1x10⟩) (by assumption) ?zr1x10
              case zy1x10 => (intro w hSw; (try dsimp only at hSw); (try simp only [List.getElem_toArray, List.getElem_cons_zero, List.getElem_cons_succ]); go_simp; first | done | with_reducible rfl)
              simp only [Act.put, List.getElem_toArray, List.getElem_cons_zero, List.getElem_cons_succ, List.setIfInBounds_toArray, List.set_cons_zero, List.set_cons_succ]
              refine wpAnyH_take (i := 11) (v := ?zv1x11) rfl (by kernel_rfl) (by kernel_rfl) (by kernel_rfl) (fun _ _ _ h => h) (Or.inl ⟨by rfl, ?zy1x11⟩) (by assumption) ?zr1x11
              case zy1x11 => (intro w hSw; (try dsimp only at hSw); (try simp only [List.getElem_toArray, List.getElem_cons_zero, List.getElem_cons_succ]); go_simp; first | done | with_reducible rfl)
              simp only [Act.put, List.getElem_toArray, List.getElem_cons_zero, List.getElem_cons_succ, List.setIfInBounds_toArray, List.set_cons_zero, List.set_cons_succ]
              refine wpAnyH_take (i := 12) (v := ?zv1x12) rfl (by kernel_rfl) (by kernel_rfl) (by kernel_rfl) (fun _ _ _ h => h) (Or.inl ⟨by rfl, ?zy1x12⟩) (by assumption) ?zr1x12
              case zy1x12 => (intro w hSw; (try dsimp only at hSw); (try simp only [List.getElem_toArray, List.getElem_cons_zero, List.getElem_cons_succ]); go_simp; first | done | with_reducible rfl)
              simp only [Act.put, List.getElem_toArray, List.getElem_cons_zero, List.getElem_cons_succ, List.setIfInBounds_toArray, List.set_cons_zero, List.set_cons_succ]
              refine wpAnyH_take (i := 13) (v := ?zv1x13) rfl (by kernel_rfl) (by kernel_rfl) (by kernel_rfl) (fun _ _ _ h => h) (Or.inl ⟨by rfl, ?zy1x13⟩) (by assumption) ?zr1x13
              case zy1x13 => (intro w hSw; (try dsimp only at hSw); (try simp only [List.getElem_toArray, List.getElem_cons_zero, List.getElem_cons_succ]); go_simp; first | done | with_reducible rfl)
              simp only [Act.put, List.getElem_toArray, List.getElem_cons_zero, List.getElem_cons_succ, List.setIfInBounds_toArray, List.set_cons_zero, List.set_cons_succ]
              refine wpAnyH_take (i := 14) (v := ?zv1x14) rfl (by kernel_rfl) (by kernel_rfl) (by kernel_rfl) (fun _ _ _ h => h) (Or.inl ⟨by rfl, ?zy1x14⟩) (by assumption) ?zr1x14
              case zy1x14 => (intro w hSw; (try dsimp only at hSw); (try simp only [List.getElem_toArray, List.getElem_cons_zero, List.getElem_cons_succ]); go_simp; first | done | with_reducible rfl)
              simp only [Act.put, List.getElem_toArray, List.getElem_cons_zero, List.getElem_cons_succ, List.setIfInBounds_toArray, List.set_cons_zero, List.set_cons_succ]
              refine wpAnyH_take (i := 15) (v := ?zv1x15) rfl (by kernel_rfl) (by kernel_rfl) (by kernel_rfl) (fun _ _ _ h => h) (Or.inl ⟨by rfl, ?zy1x15⟩) (by assumption) ?zr1x15
              case zy1x15 => (intro w hSw; (try dsimp only at hSw); (try simp only [List.getElem_toArray, List.getElem_cons_zero, List.getElem_cons_succ]); go_simp; first | done | with_reducible rfl)
              simp only [Act.put, List.getElem_toArray, List.getElem_cons_zero, List.getElem_cons_succ, List.setIfInBounds_toArray, List.set_cons_zero, List.set_cons_succ]
              refine wpAnyH_take (i := 16) (v := ?zv1x16) rfl (by kernel_rfl) (by kernel_rfl) (by kernel_rfl) (fun _ _ _ h => h) (Or.inl ⟨by rfl, ?zy1x16⟩) (by assumption) ?zr1x16
              case zy1x16 => (intro w hSw; (try dsimp only at hSw); (try simp only [List.getElem_toArray, List.getElem_cons_zero, List.getElem_cons_succ]); go_simp; first | done | with_reducible rfl)
              simp only [Act.put, List.getElem_toArray, List.getElem_cons_zero, List.getElem_cons_succ, List.setIfInBounds_toArray, List.set_cons_zero, List.set_cons_succ]
              refine wpAnyH_take (i := 17) (v := ?zv1x17) rfl (by kernel_rfl) (by kernel_rfl) (by kernel_rfl) (fun _ _ _ h => h) (Or.inl ⟨by rfl, ?zy1x17⟩) (by assumption) ?zr1x17
              case zy1x17 => (intro w hSw; (try dsimp only at hSw); (try simp only [List.getElem_toArray, List.getElem_cons_zero, List.getElem_cons_succ]); go_simp; first | done | with_reducible rfl)
              simp only [Act.put, List.getElem_toArray, List.getElem_cons_zero, List.getElem_cons_succ, List.setIfInBounds_toArray, List.set_cons_zero, List.set_cons_succ]
              refine wpAnyH_take (i := 18) (v := ?zv1x18) rfl (by kernel_rfl) (by kernel_rfl) (by kernel_rfl) (fun _ _ _ h => h) (Or.inl ⟨by rfl, ?zy1x18⟩) (by assumption) ?zr1x18
              case zy1x18 => (intro w hSw; (try dsimp only at hSw); (try simp only [List.getElem_toArray, List.getElem_cons_zero, List.getElem_cons_succ]); go_simp; first | done | with_reducible rfl)
              simp only [Act.put, List.getElem_toArray, List.getElem_cons_zero, List.getElem_cons_succ, List.setIfInBounds_toArray, List.set_cons_zero, List.set_cons_succ]
              refine wpAnyH_ready (rs := [19]) (by kernel_rfl) (by simp) ?_
              refine AllReadyH.cons rfl (fun K hK => ?_) AllReadyH.nil
              try simp only [List.getElem_toArray, List.getElem_cons_zero, List.getElem_cons_succ]
              go_simp
              refine (C2.out _ (bel.trans ((up.out _ B0).mono bel.size))).mono ?_
              rintro e W1 ⟨rfl, b1⟩
              have B1 := B0.trans (b1.mono B0.size)
              have hS1 := cs.out _ B1
              refine hK.out _ _ hS1 (fun hHeld1 => ?_)
              clear hK K
              try simp only [Act.put, List.getElem_toArray, List.getElem_cons_zero, List.getElem_cons_succ, List.setIfInBounds_toArray, List.set_cons_zero, List.set_cons_succ]
              refine wpAnyH_take (i := 20) (v := ?zv1x20) rfl (by kernel_rfl) (by kernel_rfl) (by kernel_rfl) (fun _ _ _ h => h) (Or.inl ⟨by rfl, ?zy1x20⟩) (by assumption) ?zr1x20
              case zy1x20 => (intro w hSw; (try dsimp only at hSw); (try simp only [List.getElem_toArray, List.getElem_cons_zero, List.getElem_cons_succ]); go_simp; first | done | with_reducible rfl)
              simp only [Act.put, List.getElem_toArray, List.getElem_cons_zero, List.getElem_cons_succ, List.setIfInBounds_toArray, List.set_cons_zero, List.set_cons_succ]
              refine wpAnyH_take (i := 21) (v := ?zv1x21) rfl (by kernel_rfl) (by kernel_rfl) (by kernel_rfl) (fun _ _ _ h => h) (Or.inl ⟨by rfl, ?zy1x21⟩) (by assumption) ?zr1x21
              case zy1x21 => (intro w hSw; (try dsimp only at hSw); (try simp only [List.getElem_toArray, List.getElem_cons_zero, List.getElem_cons_succ]); go_simp; first | done | with_reducible rfl)
              simp only [Act.put, List.getElem_toArray, List.getElem_cons_zero, List.getElem_cons_succ, List.setIfInBounds_toArray, List.set_cons_zero, List.set_cons_succ]
              refine wpAnyH_take (i := 22) (v := undef) rfl (by kernel_rfl) (by kernel_rfl) (by kernel_rfl) (fun _ _ _ h => h) (Or.inr ⟨by rfl, rfl⟩) (by assumption) ?_
              simp only [Act.put, List.getElem_toArray, List.getElem_cons_zero, List.getElem_cons_succ, List.setIfInBounds_toArray, List.set_cons_zero, List.set_cons_succ]
              refine wpAnyH_take (i := 23) (v := undef) rfl (by kernel_rfl) (by kernel_rfl) (by kernel_rfl) (fun _ _ _ h => h) (Or.inr ⟨by rfl, rfl⟩) (by assumption) ?_
              simp only [Act.put, List.getElem_toArray, List.getElem_cons_zero, List.getElem_cons_succ, List.setIfInBounds_toArray, List.set_cons_zero, List.set_cons_succ]
              refine wpAnyH_take (i := 24) (v := undef) rfl (by kernel_rfl) (by kernel_rfl) (by kernel_rfl) (fun _ _ _ h => h) (Or.inr ⟨by rfl, rfl⟩) (by assumption) ?_
              simp only [Act.put, List.getElem_toArray, List.getElem_cons_zero, List.getElem_cons_succ, List.setIfInBounds_toArray, List.set_cons_zero, List.set_cons_succ]
              refine wpAnyH_take (i := 25) (v := undef) rfl (by kernel_rfl) (by kernel_rfl) (by kernel_rfl) (fun _ _ _ h => h) (Or.inr ⟨by rfl, rfl⟩) (by assumption) ?_
              simp only [Act.put, List.getElem_toArray, List.getElem_cons_zero, List.getElem_cons_succ, List.setIfInBounds_toArray, List.set_cons_zero, List.set_cons_succ]
              refine wpAnyH_take (i := 26) (v := undef) rfl (by kernel_rfl) (by kernel_rfl) (by kernel_rfl) (fun _ _ _ h => h) (Or.inr ⟨by rfl, rfl⟩) (by assumption) ?_
              simp only [Act.put, List.getElem_toArray, List.getElem_cons_zero, List.getElem_cons_succ, List.setIfInBounds_toArray, List.set_cons_zero, List.set_cons_succ]
              refine wpAnyH_take (i := 27) (v := undef) rfl (by kernel_rfl) (by kernel_rfl) (by kernel_rfl) (fun _ _ _ h => h) (Or.inr ⟨by rfl, rfl⟩) (by assumption) ?_
              simp only [Act.put, List.getElem_toArray, List.getElem_cons_zero, List.getElem_cons_succ, List.setIfInBounds_toArray, List.set_cons_zero, List.set_cons_succ]
              refine wpAnyH_take (i := 28) (v := undef) rfl (by kernel_rfl) (by kernel_rfl) (by kernel_rfl) (fun _ _ _ h => h) (Or.inr ⟨by rfl, rfl⟩) (by assumption) ?_
              simp only [Act.put, List.getElem_toArray, List.getElem_cons_zero, List.getElem_cons_succ, List.setIfInBounds_toArray, List.set_cons_zero, List.set_cons_succ]
              refine wpAnyH_take (i := 29) (v := undef) rfl (by kernel_rfl) (by kernel_rfl) (by kernel_rfl) (fun _ _ _ h => h) (Or.inr ⟨by rfl, rfl⟩) (by assumption) ?_
              simp only [Act.put, List.getElem_toArray, List.getElem_cons_zero, List.getElem_cons_succ, List.setIfInBounds_toArray, List.set_cons_zero, List.set_cons_succ]
              refine wpAnyH_take (i := 30) (v := undef) rfl (by kernel_rfl) (by kernel_rfl) (by kernel_rfl) (fun _ _ _ h => h) (Or.inr ⟨by rfl, rfl⟩) (by assumption) ?_
              simp only [Act.put, List.getElem_toArray, List.getElem_cons_zero, List.getElem_cons_succ, List.setIfInBounds_toArray, List.set_cons_zero, List.set_cons_succ]
              refine wpAnyH_take (i := 31) (v := undef) rfl (by kernel_rfl) (by kernel_rfl) (by kernel_rfl) (fun _ _ _ h => h) (Or.inr ⟨by rfl, rfl⟩) (by assumption) ?_
              simp only [Act.put, List.getElem_toArray, List.getElem_cons_zero, List.getElem_cons_succ, List.setIfInBounds_toArray, List.set_cons_zero, List.set_cons_succ]
              refine wpAnyH_take (i := 32) (v := undef) rfl (by kernel_rfl) (by kernel_rfl) (by kernel_rfl) (fun _ _ _ h => h) (Or.inr ⟨by rfl, rfl⟩) (by assumption) ?_
              simp only [Act.put, List.getElem_toArray, List.getElem_cons_zero, List.getElem_cons_succ, List.setIfInBounds_toArray, List.set_cons_zero, List.set_cons_succ]
              refine wpAnyH_take (i := 33) (v := undef) rfl (by kernel_rfl) (by kernel_rfl) (by kernel_rfl) (fun _ _ _ h => h) (Or.inr ⟨by rfl, rfl⟩) (by assumption) ?_
              simp only [Act.put, List.getElem_toArray, List.getElem_cons_zero, List.getElem_cons_succ, List.setIfInBounds_toArray, List.set_cons_zero, List.set_cons_succ]
              refine wpAnyH_take (i := 34) (v := undef) rfl (by kernel_rfl) (by kernel_rfl) (by kernel_rfl) (fun _ _ _ h => h) (Or.inr ⟨by rfl, rfl⟩) (by assumption) ?_
              simp only [Act.put, List.getElem_toArray, List.getElem_cons_zero, List.getElem_cons_succ, List.setIfInBounds_toArray, List.set_cons_zero, List.set_cons_succ]
              refine wpAnyH_take (i := 35) (v := undef) rfl (by kernel_rfl) (by kernel_rfl) (by kernel_rfl) (fun _ _ _ h => h) (Or.inr ⟨by rfl, rfl⟩) (by assumption) ?_
              simp only [Act.put, List.getElem_toArray, List.getElem_cons_zero, List.getElem_cons_succ, List.setIfInBounds_toArray, List.set_cons_zero, List.set_cons_succ]
              refine wpAnyH_take (i := 36) (v := undef) rfl (by kernel_rfl) (by kernel_rfl) (by kernel_rfl) (fun _ _ _ h => h) (Or.inr ⟨by rfl, rfl⟩) (by assumption) ?_
              simp only [Act.put, List.getElem_toArray, List.getElem_cons_zero, List.getElem_cons_succ, List.setIfInBounds_toArray, List.set_cons_zero, List.set_cons_succ]
              refine wpAnyH_take (i := 37) (v := undef) rfl (by kernel_rfl) (by kernel_rfl) (by kernel_rfl) (fun _ _ _ h => h) (Or.inr ⟨by rfl, rfl⟩) (by assumption) ?_
              simp only [Act.put, List.getElem_toArray, List.getElem_cons_zero, List.getElem_cons_succ, List.setIfInBounds_toArray, List.set_cons_zero, List.set_cons_succ]
              refine wpAnyH_take (i := 38) (v := ?zv1x38) rfl (by kernel_rfl) (by kernel_rfl) (by kernel_rfl) (fun _ _ _ h => h) (Or.inl ⟨by rfl, ?zy1x38⟩) (by assumption) ?zr1x38
              case zy1x38 => (intro w hSw; (try dsimp only at hSw); (try simp only [List.getElem_toArray, List.getElem_cons_zero, List.getElem_cons_succ]); go_simp; first | done | with_reducible rfl)
              simp only [Act.put, List.getElem_toArray, List.getElem_cons_zero, List.getElem_cons_succ, List.setIfInBounds_toArray, List.set_cons_zero, List.set_cons_succ]
              refine wpAnyH_take (i := 39) (v := ?zv1x39) rfl (by kernel_rfl) (by kernel_rfl) (by kernel_rfl) (fun _ _ _ h => h) (Or.inl ⟨by rfl, ?zy1x39⟩) (by assumption) ?zr1x39
              case zy1x39 => (intro w hSw; (try dsimp only at hSw); (try simp only [List.getElem_toArray, List.getElem_cons_zero, List.getElem_cons_succ]); go_simp; first | done | with_reducible rfl)
              simp only [Act.put, List.getElem_toArray, List.getElem_cons_zero, List.getElem_cons_succ, List.setIfInBounds_toArray, List.set_cons_zero, List.set_cons_succ]
              refine wpAnyH_done (by kernel_rfl) ?_ _
              refine NoPanic.normal ?_
              obtain ⟨⟨_, _, _, _⟩, ⟨_, _, _, _⟩⟩ := cs.out _ B1
              obtain ⟨_, _, _, _⟩ := kp.out _ (bel0.trans ((up.out _ B1).mono sz))
              cases he : (y.t.toList == [42]) with
              | true =>
                have HP3 : Hid (elB l.length t 0 y = (decide (l.length ≤ 1) && !(t.toList == []) && ((0 : Int) == 0))) := by show _ = _; rw [HP.out, if_pos he]
                by_cases hl1 : l.length ≤ 1
                · have hl1' : ¬ (1 : Int) < (l.length : Int) := by omega
                  cases h0 : (t.toList == []) with
                  | true =>
                    have HR : Hid (l.all (elB l.length t 0) = false) := HB.out (by rw [HP3.out, h0]; simp)
                    clear HB HG HP
                    go_wp2
                    go_ret
                    exact ⟨ret_b (by first | rw [Bool.true_and, HR.out] | rw [HR.out]), (bel.trans ((up.out _ B1).mono bel.size))⟩
                  | false =>
                    have HR : Hid (∀ z ∈ l.take (k + 1), elB l.length t 0 z = true) := HG.out (by rw [HP3.out, h0]; simp [hl1])
                    clear HB HG HP HP3
                    go_wp2
                    go_roundg (gk - 1)
                    case rel => exact ⟨k + 1, by simp, by have := hk.out; show _ = _; omega, bel0.trans ((up.out _ B1).mono sz), HR⟩
                    case measure => have := hk.out; omega
                · have hl1' : (1 : Int) < (l.length : Int) := by omega
                  have HR : Hid (l.all (elB l.length t 0) = false) := HB.out (by rw [HP3.out]; simp [hl1])
                  clear HB HG HP
                  go_wp2
                  go_ret
                  exact ⟨ret_b (by first | rw [Bool.true_and, HR.out] | rw [HR.out]), (bel.trans ((up.out _ B1).mono bel.size))⟩
              | false =>
                have HP3 : Hid (elB l.length t 0 y = (propT false y.t.data.toList && (!(t.toList == []) || idT false y.t))) := by show _ = _; rw [HP.out, if_neg (by rw [he]; decide)]
                generalize propT false y.t.data.toList = pt at *
                generalize idT false y.t = it at *
                cases pt with
                | false =>
                  have HR : Hid (l.all (elB l.length t 0) = false) := HB.out HP3.out
                  clear HB HG HP
                  go_wp2_with (go_at_call 48; refine (C1.out _ (bel.trans ((up.out _ B1).mono bel.size))).mono ?_; rintro e W8 ⟨rfl, b8⟩; have B8 := B1.trans (b8.mono B1.size); obtain ⟨⟨_, _, _, _⟩, ⟨_, _, _, _⟩⟩ := cs.out _ B8; obtain ⟨_, _, _, _⟩ := kp.out _ (bel0.trans ((up.out _ B8).mono sz)))
                  go_ret
                  exact ⟨ret_b (by first | rw [Bool.true_and, HR.out] | rw [HR.out]), (bel.trans ((up.out _ B8).mono bel.size))⟩
                | true =>
                  cases h0 : (t.toList == []) with
                  | false =>
                    have HR : Hid (∀ z ∈ l.take (k + 1), elB l.length t 0 z = true) := HG.out (by rw [HP3.out, h0]; rfl)
                    clear HB HG HP HP3
                    go_wp2_with (go_at_call 48; refine (C1.out _ (bel.trans ((up.out _ B1).mono bel.size))).mono ?_; rintro e W8 ⟨rfl, b8⟩; have B8 := B1.trans (b8.mono B1.size); obtain ⟨⟨_, _, _, _⟩, ⟨_, _, _, _⟩⟩ := cs.out _ B8; obtain ⟨_, _, _, _⟩ := kp.out _ (bel0.trans ((up.out _ B8).mono sz)))
                    go_roundg (gk - 1)
                    case rel => exact ⟨k + 1, by simp, by have := hk.out; show _ = _; omega, bel0.trans ((up.out _ B8).mono sz), HR⟩
                    case measure => have := hk.out; omega
                  | true =>
                    cases it with
                    | false =>
                      have HR : Hid (l.all (elB l.length t 0) = false) := HB.out (by rw [HP3.out, h0]; rfl)
                      clear HB HG HP
                      go_wp2_with (first
                        | (go_at_call 48; refine (C1.out _ (bel.trans ((up.out _ B1).mono bel.size))).mono ?_; rintro e W8 ⟨rfl, b8⟩; have B8 := B1.trans (b8.mono B1.size); obtain ⟨⟨_, _, _, _⟩, ⟨_, _, _, _⟩⟩ := cs.out _ B8; obtain ⟨_, _, _, _⟩ := kp.out _ (bel0.trans ((up.out _ B8).mono sz)))
                        | (go_at_call 46; refine (C4.out _ (bel.trans ((up.out _ B8).mono bel.size))).mono ?_; rintro e W9 ⟨rfl, b9⟩; have B9 := B8.trans (b9.mono B8.size); obtain ⟨⟨_, _, _, _⟩, ⟨_, _, _, _⟩⟩ := cs.out _ B9; obtain ⟨_, _, _, _⟩ := kp.out _ (bel0.trans ((up.out _ B9).mono sz))))
                      go_ret
                      exact ⟨ret_b (by first | rw [Bool.true_and, HR.out] | rw [HR.out]), (bel.trans ((up.out _ B9).mono bel.size))⟩
                    | true =>
                      have HR : Hid (∀ z ∈ l.take (k + 1), elB l.length t 0 z = true) := HG.out (by rw [HP3.out, h0]; rfl)
                      clear HB HG HP HP3
                      go_wp2_with (first
                        | (go_at_call 48; refine (C1.out _ (bel.trans ((up.out _ B1).mono bel.size))).mono ?_; rintro e W8 ⟨rfl, b8⟩; have B8 := B1.trans (b8.mono B1.size); obtain ⟨⟨_, _, _, _⟩, ⟨_, _, _, _⟩⟩ := cs.out _ B8; obtain ⟨_, _, _, _⟩ := kp.out _ (bel0.trans ((up.out _ B8).mono sz)))
                        | (go_at_call 46; refine (C4.out _ (bel.trans ((up.out _ B8).mono bel.size))).mono ?_; rintro e W9 ⟨rfl, b9⟩; have B9 := B8.trans (b9.mono B8.size); obtain ⟨⟨_, _, _, _⟩, ⟨_, _, _, _⟩⟩ := cs.out _ B9; obtain ⟨_, _, _, _⟩ := kp.out _ (bel0.trans ((up.out _ B9).mono sz))))
                      go_roundg (gk - 1)
                      case rel => exact ⟨k + 1, by simp, by have := hk.out; show _ = _; omega, bel0.trans ((up.out _ B9).mono sz), HR⟩
                      case measure => have := hk.out; omega
            | false =>
              cases az2 with
              | false =>
                have HP := HP2
                have HR : Hid (l.all (elB l.length t 0) = false) := HB.out HP.out
                clear HB HG HP HP2
                go_wp2_with fail
                obtain ⟨WP, hWP⟩ : ∃ W, wr.alloc (Obj.cells #[Value.int IntKind.i64 65, Value.string y.t, Value.int IntKind.i64 0, Value.slice (some ⟨bz, oz, none⟩) 1 ck] 24) = W := ⟨_, rfl⟩
                have cP : Below wr.heap.size wr WP := by rw [← hWP]; exact bel_a _ _
                have mP : WP.heap[wr.heap.size]? = some (.cells #[Value.int IntKind.i64 65, Value.string y.t, Value.int IntKind.i64 0, Value.slice (some ⟨bz, oz, none⟩) 1 ck] 24 (0, 0)) := by rw [← hWP]; exact heap_alloc_new _ _
                rw [hWP]
                clear hWP
                have lP : wr.heap.size < WP.heap.size := (Array.getElem?_eq_some_iff.1 mP).1
                have up : Hid (∀ W', Below WP.heap.size WP W' → Below wr.heap.size wr W') := fun W' b => cP.trans (b.mono cP.size)
                have cs : Hid (∀ W', Below WP.heap.size WP W' → (W'.cell? ⟨wr.heap.size, 0, none⟩ = some (.int .i64 65) ∧ W'.cell? ⟨wr.heap.size, 1, none⟩ = some (.string y.t) ∧ W'.cell? ⟨wr.heap.size, 2, none⟩ = some (.int .i64 0) ∧ W'.cell? ⟨wr.heap.size, 3, none⟩ = some (.slice (some ⟨bz, oz, none⟩) 1 ck)) ∧ (W'.cell? ⟨bz, oz, none⟩ = some (.int .i64 z.k) ∧ W'.cell? ⟨bz, oz + 1, none⟩ = some (.string z.t) ∧ W'.cell? ⟨bz, oz + 2, none⟩ = some (.int .i64 z.n) ∧ W'.cell? ⟨bz, oz + 3, none⟩ = some (.slice az z.ks.length cz))) := fun W' b => ⟨(box4 ((b.block _ lP).trans mP)).1, HZ.out _ (bel.trans ((up.out _ b).mono bel.size))⟩
                clear mP
                have B0 : Below WP.heap.size WP WP.drew := (Below.refl _ _).drew
                have hS0 := cs.out _ B0
                refine wp_region_noPanic ?_
                refine wp_region_held_drew (S := fun W' => (W'.cell? ⟨wr.heap.size, 0, none⟩ = some (.int .i64 65) ∧ W'.cell? ⟨wr.heap.size, 1, none⟩ = some (.string y.t) ∧ W'.cell? ⟨wr.heap.size, 2, none⟩ = some (.int .i64 0) ∧ W'.cell? ⟨wr.heap.size, 3, none⟩ = some (.slice (some ⟨bz, oz, none⟩) 1 ck)) ∧ (W'.cell? ⟨bz, oz, none⟩ = some (.int .i64 z.k) ∧ W'.cell? ⟨bz, oz + 1, none⟩ = some (.string z.t) ∧ W'.cell? ⟨bz, oz + 2, none⟩ = some (.int .i64 z.n) ∧ W'.cell? ⟨bz, oz + 3, none⟩ = some (.slice az z.ks.length cz))) (by kernel_rfl) hS0 (fun hHeld => ?_)
                refine wpAnyH_take (i := 0) (v := ?zv2x0) rfl (by kernel_rfl) (by kernel_rfl) (by kernel_rfl) (fun _ _ _ h => h) (Or.inl ⟨by rfl, ?zy2x0⟩) (by assumption) ?zr2x0
                case zy2x0 => (intro w hSw; (try dsimp only at hSw); (try simp only [List.getElem_toArray, List.getElem_cons_zero, List.getElem_cons_succ]); go_simp; first | done | with_reducible rfl)
                simp only [Act.put, List.getElem_toArray, List.getElem_cons_zero, List.getElem_cons_succ, List.setIfInBounds_toArray, List.set_cons_zero, List.set_cons_succ]
                refine wpAnyH_take (i := 1) (v := ?zv2x1) rfl (by kernel_rfl) (by kernel_rfl) (by kernel_rfl) (fun _ _ _ h => h) (Or.inl ⟨by rfl, ?zy2x1⟩) (by assumption) ?zr2x1
                case zy2x1 => (intro w hSw; (try dsimp only at hSw); (try simp only [List.getElem_toArray, List.getElem_cons_zero, List.getElem_cons_succ]); go_simp; first | done | with_reducible rfl)
                simp only [Act.put, List.getElem_toArray, List.getElem_cons_zero, List.getElem_cons_succ, List.setIfInBounds_toArray, List.set_cons_zero, List.set_cons_succ]
                refine wpAnyH_take (i := 2) (v := ?zv2x2) rfl (by kernel_rfl) (by kernel_rfl) (by kernel_rfl) (fun _ _ _ h => h) (Or.inl ⟨by rfl, ?zy2x2⟩) (by assumption) ?zr2x2
                case zy2x2 => (intro w hSw; (try dsimp only at hSw); (try simp only [List.getElem_toArray, List.getElem_cons_zero, List.getElem_cons_succ]); go_simp; first | done | with_reducible rfl)
                simp only [Act.put, List.getElem_toArray, List.getElem_cons_zero, List.getElem_cons_succ, List.setIfInBounds_toArray, List.set_cons_zero, List.set_cons_succ]
                refine wpAnyH_take (i := 3) (v := ?zv2x3) rfl (by kernel_rfl) (by kernel_rfl) (by kernel_rfl) (fun _ _ _ h => h) (Or.inl ⟨by rfl, ?zy2x3⟩) (by assumption) ?zr2x3
                case zy2x3 => (intro w hSw; (try dsimp only at hSw); (try simp only [List.getElem_toArray, List.getElem_cons_zero, List.getElem_cons_succ]); go_simp; first | done | with_reducible rfl)
                simp only [Act.put, List.getElem_toArray, List.getElem_cons_zero, List.getElem_cons_succ, List.setIfInBounds_toArray, List.set_cons_zero, List.set_cons_succ]
                refine wpAnyH_take (i := 4) (v := ?zv2x4) rfl (by kernel_rfl) (by kernel_rfl) (by kernel_rfl) (fun _ _ _ h => h) (Or.inl ⟨by rfl, ?zy2x4⟩) (by assumption) ?zr2x4
                case zy2x4 => (intro w hSw; (try dsimp only at hSw); (try simp only [List.getElem_toArray, List.getElem_cons_zero, List.getElem_cons_succ]); go_simp; first | done | with_reducible rfl)
                simp only [Act.put, List.getElem_toArray, List.getElem_cons_zero, List.getElem_cons_succ, List.setIfInBounds_toArray, List.set_cons_zero, List.set_cons_succ]
                refine wpAnyH_take (i := 5) (v := ?zv2x5) rfl (by kernel_rfl) (by kernel_rfl) (by kernel_rfl) (fun _ _ _ h => h) (Or.inl ⟨by rfl, ?zy2x5⟩) (by assumption) ?zr2x5
                case zy2x5 => (intro w hSw; (try dsimp only at hSw); (try simp only [List.getElem_toArray, List.getElem_cons_zero, List.getElem_cons_succ]); go_simp; first | done | with_reducible rfl)
                simp only [Act.put, List.getElem_toArray, List.getElem_cons_zero, List.getElem_cons_succ, List.setIfInBounds_toArray, List.set_cons_zero, List.set_cons_succ]
                refine wpAnyH_take (i := 6) (v := ?zv2x6) rfl (by kernel_rfl) (by kernel_rfl) (by kernel_rfl) (fun _ _ _ h => h) (Or.inl ⟨by rfl, ?zy2x6⟩) (by assumption) ?zr2x6
                case zy2x6 => (intro w hSw; (try dsimp only at hSw); (try simp only [List.getElem_toArray, List.getElem_cons_zero, List.getElem_cons_succ]); go_simp; first | done | with_reducible rfl)
                simp only [Act.put, List.getElem_toArray, List.getElem_cons_zero, List.getElem_cons_succ, List.setIfInBounds_toArray, List.set_cons_zero, List.set_cons_succ]
                refine wpAnyH_take (i := 7) (v := ?zv2x7) rfl (by kernel_rfl) (by kernel_rfl) (by kernel_rfl) (fun _ _ _ h => h) (Or.inl ⟨by rfl, ?zy2x7⟩) (by assumption) ?zr2x7
                case zy2x7 => (intro w hSw; (try dsimp only at hSw); (try simp only [List.getElem_toArray, List.getElem_cons_zero, List.getElem_cons_succ]); go_simp; first | done | with_reducible rfl)
                simp only [Act.put, List.getElem_toArray, List.getElem_cons_zero, List.getElem_cons_succ, List.setIfInBounds_toArray, List.set_cons_zero, List.set_cons_succ]
                refine wpAnyH_take (i := 8) (v := ?zv2x8) rfl (by kernel_rfl) (by kernel_rfl) (by kernel_rfl) (fun _ _ _ h => h) (Or.inl ⟨by rfl, ?zy2x8⟩) (by assumption) ?zr2x8
                case zy2x8 => (intro w hSw; (try dsimp only at hSw); (try simp only [List.getElem_toArray, List.getElem_cons_zero, List.getElem_cons_succ]); go_simp; first | done | with_reducible rfl)
                simp only [Act.put, List.getElem_toArray, List.getElem_cons_zero, List.getElem_cons_succ, List.setIfInBounds_toArray, List.set_cons_zero, List.set_cons_succ]
                refine wpAnyH_take (i := 9) (v := ?zv2x9) rfl (by kernel_rfl) (by kernel_rfl) (by kernel_rfl) (fun _ _ _ h => h) (Or.inl ⟨by rfl, ?zy2x9⟩) (by assumption) ?zr2x9
                case zy2x9 => (intro w hSw; (try dsimp only at hSw); (try simp only [List.getElem_toArray, List.getElem_cons_zero, List.getElem_cons_succ]); go_simp; first | done | with_reducible rfl)
                simp only [Act.put, List.getElem_toArray, List.getElem_cons_zero, List.getElem_cons_succ, List.setIfInBounds_toArray, List.set_cons_zero, List.set_cons_succ]
                refine wpAnyH_take (i := 10) (v := ?zv2x10) rfl (by kernel_rfl) (by kernel_rfl) (by kernel_rfl) (fun _ _ _ h => h) (Or.inl ⟨by rfl, ?zy2x10⟩) (by assumption) ?zr2x10
                case zy2x10 => (intro w hSw; (try dsimp only at hSw); (try simp only [List.getElem_toArray, List.getElem_cons_zero, List.getElem_cons_succ]); go_simp; first | done | with_reducible rfl)
                simp only [Act.put, List.getElem_toArray, List.getElem_cons_zero, List.getElem_cons_succ, List.setIfInBounds_toArray, List.set_cons_zero, List.set_cons_succ]
                refine wpAnyH_take (i := 11) (v := ?zv2x11) rfl (by kernel_rfl) (by kernel_rfl) (by kernel_rfl) (fun _ _ _ h => h) (Or.inl ⟨by rfl, ?zy2x11⟩) (by assumption) ?zr2x11
                case zy2x11 => (intro w hSw; (try dsimp only at hSw); (try simp only [List.getElem_toArray, List.getElem_cons_zero, List.getElem_cons_succ]); go_simp; first | done | with_reducible rfl)
                simp only [Act.put, List.getElem_toArray, List.getElem_cons_zero, List.getElem_cons_succ, List.setIfInBounds_toArray, List.set_cons_zero, List.set_cons_succ]
                refine wpAnyH_take (i := 12) (v := ?zv2x12) rfl (by kernel_rfl) (by kernel_rfl) (by kernel_rfl) (fun _ _ _ h => h) (Or.inl ⟨by rfl, ?zy2x12⟩) (by assumption) ?zr2x12
                case zy2x12 => (intro w hSw; (try dsimp only at hSw); (try simp only [List.getElem_toArray, List.getElem_cons_zero, List.getElem_cons_succ]); go_simp; first | done | with_reducible rfl)
                simp only [Act.put, List.getElem_toArray, List.getElem_cons_zero, List.getElem_cons_succ, List.setIfInBounds_toArray, List.set_cons_zero, List.set_cons_succ]
                refine wpAnyH_take (i := 13) (v := ?zv2x13) rfl (by kernel_rfl) (by kernel_rfl) (by kernel_rfl) (fun _ _ _ h => h) (Or.inl ⟨by rfl, ?zy2x13⟩) (by assumption) ?zr2x13
                case zy2x13 => (intro w hSw; (try dsimp only at hSw); (try simp only [List.getElem_toArray, List.getElem_cons_zero, List.getElem_cons_succ]); go_simp; first | done | with_reducible rfl)
                simp only [Act.put, List.getElem_toArray, List.getElem_cons_zero, List.getElem_cons_succ, List.setIfInBounds_toArray, List.set_cons_zero, List.set_cons_succ]
                refine wpAnyH_take (i := 14) (v := ?zv2x14) rfl (by kernel_rfl) (by kernel_rfl) (by kernel_rfl) (fun _ _ _ h => h) (Or.inl ⟨by rfl, ?zy2x14⟩) (by assumption) ?zr2x14
                case zy2x14 => (intro w hSw; (try dsimp only at hSw); (try simp only [List.getElem_toArray, List.getElem_cons_zero, List.getElem_cons_succ]); go_simp; first | done | with_reducible rfl)
                simp only [Act.put, List.getElem_toArray, List.getElem_cons_zero, List.getElem_cons_succ, List.setIfInBounds_toArray, List.set_cons_zero, List.set_cons_succ]
                refine wpAnyH_take (i := 15) (v := ?zv2x15) rfl (by kernel_rfl) (by kernel_rfl) (by kernel_rfl) (fun _ _ _ h => h) (Or.inl ⟨by rfl, ?zy2x15⟩) (by assumption) ?zr2x15
                case zy2x15 => (intro w hSw; (try dsimp only at hSw); (try simp only [List.getElem_toArray, List.getElem_cons_zero, List.getElem_cons_succ]); go_simp; first | done | with_reducible rfl)
                simp only [Act.put, List.getElem_toArray, List.getElem_cons_zero, List.getElem_cons_succ, List.setIfInBounds_toArray, List.set_cons_zero, List.set_cons_succ]
                refine wpAnyH_take (i := 16) (v := ?zv2x16) rfl (by kernel_rfl) (by kernel_rfl) (by kernel_rfl) (fun _ _ _ h => h) (Or.inl ⟨by rfl, ?zy2x16⟩) (by assumption) ?zr2x16
                case zy2x16 => (intro w hSw; (try dsimp only at hSw); (try simp only [List.getElem_toArray, List.getElem_cons_zero, List.getElem_cons_succ]); go_simp; first | done | with_reducible rfl)
                simp only [Act.put, List.getElem_toArray, List.getElem_cons_zero, List.getElem_cons_succ, List.setIfInBounds_toArray, List.set_cons_zero, List.set_cons_succ]
                refine wpAnyH_take (i := 17) (v := ?zv2x17) rfl (by kernel_rfl) (by kernel_rfl) (by kernel_rfl) (fun _ _ _ h => h) (Or.inl ⟨by rfl, ?zy2x17⟩) (by assumption) ?zr2x17
                case zy2x17 => (intro w hSw; (try dsimp only at hSw); (try simp only [List.getElem_toArray, List.getElem_cons_zero, List.getElem_cons_succ]); go_simp; first | done | with_reducible rfl)
                simp only [Act.put, List.getElem_toArray, List.getElem_cons_zero, List.getElem_cons_succ, List.setIfInBounds_toArray, List.set_cons_zero, List.set_cons_succ]
                refine wpAnyH_take (i := 18) (v := ?zv2x18) rfl (by kernel_rfl) (by kernel_rfl) (by kernel_rfl) (fun _ _ _ h => h) (Or.inl ⟨by rfl, ?zy2x18⟩) (by assumption) ?zr2x18
                case zy2x18 => (intro w hSw; (try dsimp only at hSw); (try simp only [List.getElem_toArray, List.getElem_cons_zero, List.getElem_cons_succ]); go_simp; first | done | with_reducible rfl)
                simp only [Act.put, List.getElem_toArray, List.getElem_cons_zero, List.getElem_cons_succ, List.setIfInBounds_toArray, List.set_cons_zero, List.set_cons_succ]
                refine wpAnyH_ready (rs := [19]) (by kernel_rfl) (by simp) ?_
                refine AllReadyH.cons rfl (fun K hK => ?_) AllReadyH.nil
                try simp only [List.getElem_toArray, List.getElem_cons_zero, List.getElem_cons_succ]
                go_simp
                refine (C2.out _ (bel.trans ((up.out _ B0).mono bel.size))).mono ?_
                rintro e W1 ⟨rfl, b1⟩
                have B1 := B0.trans (b1.mono B0.size)
                have hS1 := cs.out _ B1
                refine hK.out _ _ hS1 (fun hHeld1 => ?_)
                clear hK K
                try simp only [Act.put, List.getElem_toArray, List.getElem_cons_zero, List.getElem_cons_succ, List.setIfInBounds_toArray, List.set_cons_zero, List.set_cons_succ]
                refine wpAnyH_take (i := 20) (v := ?zv2x20) rfl (by kernel_rfl) (by kernel_rfl) (by kernel_rfl) (fun _ _ _ h => h) (Or.inl ⟨by rfl, ?zy2x20⟩) (by assumption) ?zr2x20
                case zy2x20 => (intro w hSw; (try dsimp only at hSw); (try simp only [List.getElem_toArray, List.getElem_cons_zero, List.getElem_cons_succ]); go_simp; first | done | with_reducible rfl)
                simp only [Act.put, List.getElem_toArray, List.getElem_cons_zero, List.getElem_cons_succ, List.setIfInBounds_toArray, List.set_cons_zero, List.set_cons_succ]
                refine wpAnyH_take (i := 21) (v := ?zv2x21) rfl (by kernel_rfl) (by kernel_rfl) (by kernel_rfl) (fun _ _ _ h => h) (Or.inl ⟨by rfl, ?zy2x21⟩) (by assumption) ?zr2x21
                case zy2x21 => (intro w hSw; (try dsimp only at hSw); (try simp only [List.getElem_toArray, List.getElem_cons_zero, List.getElem_cons_succ]); go_simp; first | done | with_reducible rfl)
                simp only [Act.put, List.getElem_toArray, List.getElem_cons_zero, List.getElem_cons_succ, List.setIfInBounds_toArray, List.set_cons_zero, List.set_cons_succ]
                refine wpAnyH_take (i := 22) (v := ?zv2x22) rfl (by kernel_rfl) (by kernel_rfl) (by kernel_rfl) (fun _ _ _ h => h) (Or.inl ⟨by rfl, ?zy2x22⟩) (by assumption) ?zr2x22
                case zy2x22 => (intro w hSw; (try dsimp only at hSw); (try simp only [List.getElem_toArray, List.getElem_cons_zero, List.getElem_cons_succ]); go_simp; first | done | with_reducible rfl)
                simp only [Act.put, List.getElem_toArray, List.getElem_cons_zero, List.getElem_cons_succ, List.setIfInBounds_toArray, List.set_cons_zero, List.set_cons_succ]
                refine wpAnyH_take (i := 23) (v := ?zv2x23) rfl (by kernel_rfl) (by kernel_rfl) (by kernel_rfl) (fun _ _ _ h => h) (Or.inl ⟨by rfl, ?zy2x23⟩) (by assumption) ?zr2x23
                case zy2x23 => (intro w hSw; (try dsimp only at hSw); (try simp only [List.getElem_toArray, List.getElem_cons_zero, List.getElem_cons_succ]); go_simp; first | done | with_reducible rfl)
                simp only [Act.put, List.getElem_toArray, List.getElem_cons_zero, List.getElem_cons_succ, List.setIfInBounds_toArray, List.set_cons_zero, List.set_cons_succ]
                refine wpAnyH_take (i := 24) (v := ?zv2x24) rfl (by kernel_rfl) (by kernel_rfl) (by kernel_rfl) (fun _ _ _ h => h) (Or.inl ⟨by rfl, ?zy2x24⟩) (by assumption) ?zr2x24
                case zy2x24 => (intro w hSw; (try dsimp only at hSw); (try simp only [List.getElem_toArray, List.getElem_cons_zero, List.getElem_cons_succ]); go_simp; first | done | with_reducible rfl)
                simp only [Act.put, List.getElem_toArray, List.getElem_cons_zero, List.getElem_cons_succ, List.setIfInBounds_toArray, List.set_cons_zero, List.set_cons_succ]
                refine wpAnyH_take (i := 25) (v := ?zv2x25) rfl (by kernel_rfl) (by kernel_rfl) (by kernel_rfl) (fun _ _ _ h => h) (Or.inl ⟨by rfl, ?zy2x25⟩) (by assumption) ?zr2x25
                case zy2x25 => (intro w hSw; (try dsimp only at hSw); (try simp only [List.getElem_toArray, List.getElem_cons_zero, List.getElem_cons_succ]); go_simp; first | done | with_reducible rfl)
                simp only [Act.put, List.getElem_toArray, List.getElem_cons_zero, List.getElem_cons_succ, List.setIfInBounds_toArray, List.set_cons_zero, List.set_cons_succ]
                refine wpAnyH_ready (rs := [26]) (by kernel_rfl) (by simp) ?_
                refine AllReadyH.cons rfl (fun K hK => ?_) AllReadyH.nil
                try simp only [List.getElem_toArray, List.getElem_cons_zero, List.getElem_cons_succ]
                go_simp
                refine (C3.out _ (bel.trans ((up.out _ B1).mono bel.size))).mono ?_
                rintro e W2 ⟨rfl, b2⟩
                have B2 := B1.trans (b2.mono B1.size)
                have hS2 := cs.out _ B2
                refine hK.out _ _ hS2 (fun hHeld2 => ?_)
                clear hK K
                try simp only [Act.put, List.getElem_toArray, List.getElem_cons_zero, List.getElem_cons_succ, List.setIfInBounds_toArray, List.set_cons_zero, List.set_cons_succ]
                refine wpAnyH_take (i := 27) (v := ?zv2x27) rfl (by kernel_rfl) (by kernel_rfl) (by kernel_rfl) (fun _ _ _ h => h) (Or.inl ⟨by rfl, ?zy2x27⟩) (by assumption) ?zr2x27
                case zy2x27 => (intro w hSw; (try dsimp only at hSw); (try simp only [List.getElem_toArray, List.getElem_cons_zero, List.getElem_cons_succ]); go_simp; first | done | with_reducible rfl)
                simp only [Act.put, List.getElem_toArray, List.getElem_cons_zero, List.getElem_cons_succ, List.setIfInBounds_toArray, List.set_cons_zero, List.set_cons_succ]
                refine wpAnyH_take (i := 28) (v := ?zv2x28) rfl (by kernel_rfl) (by kernel_rfl) (by kernel_rfl) (fun _ _ _ h => h) (Or.inl ⟨by rfl, ?zy2x28⟩) (by assumption) ?zr2x28
                case zy2x28 => (intro w hSw; (try dsimp only at hSw); (try simp only [List.getElem_toArray, List.getElem_cons_zero, List.getElem_cons_succ]); go_simp; first | done | with_reducible rfl)
                simp only [Act.put, List.getElem_toArray, List.getElem_cons_zero, List.getElem_cons_succ, List.setIfInBounds_toArray, List.set_cons_zero, List.set_cons_succ]
                refine wpAnyH_take (i := 29) (v := undef) rfl (by kernel_rfl) (by kernel_rfl) (by kernel_rfl) (fun _ _ _ h => h) (Or.inr ⟨by rfl, rfl⟩) (by assumption) ?_
                simp only [Act.put, List.getElem_toArray, List.getElem_cons_zero, List.getElem_cons_succ, List.setIfInBounds_toArray, List.set_cons_zero, List.set_cons_succ]
                refine wpAnyH_take (i := 30) (v := undef) rfl (by kernel_rfl) (by kernel_rfl) (by kernel_rfl) (fun _ _ _ h => h) (Or.inr ⟨by rfl, rfl⟩) (by assumption) ?_
                simp only [Act.put, List.getElem_toArray, List.getElem_cons_zero, List.getElem_cons_succ, List.setIfInBounds_toArray, List.set_cons_zero, List.set_cons_succ]
                refine wpAnyH_take (i := 31) (v := undef) rfl (by kernel_rfl) (by kernel_rfl) (by kernel_rfl) (fun _ _ _ h => h) (Or.inr ⟨by rfl, rfl⟩) (by assumption) ?_
                simp only [Act.put, List.getElem_toArray, List.getElem_cons_zero, List.getElem_cons_succ, List.setIfInBounds_toArray, List.set_cons_zero, List.set_cons_succ]
                refine wpAnyH_take (i := 32) (v := undef) rfl (by kernel_rfl) (by kernel_rfl) (by kernel_rfl) (fun _ _ _ h => h) (Or.inr ⟨by rfl, rfl⟩) (by assumption) ?_
                simp only [Act.put, List.getElem_toArray, List.getElem_cons_zero, List.getElem_cons_succ, List.setIfInBounds_toArray, List.set_cons_zero, List.set_cons_succ]
                refine wpAnyH_take (i := 33) (v := undef) rfl (by kernel_rfl) (by kernel_rfl) (by kernel_rfl) (fun _ _ _ h => h) (Or.inr ⟨by rfl, rfl⟩) (by assumption) ?_
                simp only [Act.put, List.getElem_toArray, List.getElem_cons_zero, List.getElem_cons_succ, List.setIfInBounds_toArray, List.set_cons_zero, List.set_cons_succ]
                refine wpAnyH_take (i := 34) (v := undef) rfl (by kernel_rfl) (by kernel_rfl) (by kernel_rfl) (fun _ _ _ h => h) (Or.inr ⟨by rfl, rfl⟩) (by assumption) ?_
                simp only [Act.put, List.getElem_toArray, List.getElem_cons_zero, List.getElem_cons_succ, List.setIfInBounds_toArray, List.set_cons_zero, List.set_cons_succ]
                refine wpAnyH_take (i := 35) (v := undef) rfl (by kernel_rfl) (by kernel_rfl) (by kernel_rfl) (fun _ _ _ h => h) (Or.inr ⟨by rfl, rfl⟩) (by assumption) ?_
                simp only [Act.put, List.getElem_toArray, List.getElem_cons_zero, List.getElem_cons_succ, List.setIfInBounds_toArray, List.set_cons_zero, List.set_cons_succ]
                refine wpAnyH_take (i := 36) (v := undef) rfl (by kernel_rfl) (by kernel_rfl) (by kernel_rfl) (fun _ _ _ h => h) (Or.inr ⟨by rfl, rfl⟩) (by assumption) ?_
                simp only [Act.put, List.getElem_toArray, List.getElem_cons_zero, List.getElem_cons_succ, List.setIfInBounds_toArray, List.set_cons_zero, List.set_cons_succ]
                refine wpAnyH_take (i := 37) (v := ?zv2x37) rfl (by kernel_rfl) (by kernel_rfl) (by kernel_rfl) (fun _ _ _ h => h) (Or.inl ⟨by rfl, ?zy2x37⟩) (by assumption) ?zr2x37
                case zy2x37 => (intro w hSw; (try dsimp only at hSw); (try simp only [List.getElem_toArray, List.getElem_cons_zero, List.getElem_cons_succ]); go_simp; first | done | with_reducible rfl)
                simp only [Act.put, List.getElem_toArray, List.getElem_cons_zero, List.getElem_cons_succ, List.setIfInBounds_toArray, List.set_cons_zero, List.set_cons_succ]
                refine wpAnyH_take (i := 38) (v := ?zv2x38) rfl (by kernel_rfl) (by kernel_rfl) (by kernel_rfl) (fun _ _ _ h => h) (Or.inl ⟨by rfl, ?zy2x38⟩) (by assumption) ?zr2x38
                case zy2x38 => (intro w hSw; (try dsimp only at hSw); (try simp only [List.getElem_toArray, List.getElem_cons_zero, List.getElem_cons_succ]); go_simp; first | done | with_reducible rfl)
                simp only [Act.put, List.getElem_toArray, List.getElem_cons_zero, List.getElem_cons_succ, List.setIfInBounds_toArray, List.set_cons_zero, List.set_cons_succ]
                refine wpAnyH_take (i := 39) (v := ?zv2x39) rfl (by kernel_rfl) (by kernel_rfl) (by kernel_rfl) (fun _ _ _ h => h) (Or.inl ⟨by rfl, ?zy2x39⟩) (by assumption) ?zr2x39
                case zy2x39 => (intro w hSw; (try dsimp only at hSw); (try simp only [List.getElem_toArray, List.getElem_cons_zero, List.getElem_cons_succ]); go_simp; first | done | with_reducible rfl)
                simp only [Act.put, List.getElem_toArray, List.getElem_cons_zero, List.getElem_cons_succ, List.setIfInBounds_toArray, List.set_cons_zero, List.set_cons_succ]
                refine wpAnyH_done (by kernel_rfl) ?_ _
                refine NoPanic.normal ?_
                obtain ⟨⟨_, _, _, _⟩, ⟨_, _, _, _⟩⟩ := cs.out _ B2
                obtain ⟨_, _, _, _⟩ := kp.out _ (bel0.trans ((up.out _ B2).mono sz))
                go_wp2
                go_ret
                exact ⟨ret_b (by first | rw [Bool.true_and, HR.out] | rw [HR.out]), (bel.trans ((up.out _ B2).mono bel.size))⟩
              | true =>
                cases hzt : (z.t.toList == y.t.toList) with
                | true =>
                  have HP := HP2
                  have HR : Hid (l.all (elB l.length t 0) = false) := HB.out (by rw [HP.out, hzt]; rfl)
                  clear HB HG HP HP2
                  go_wp2_with fail
                  obtain ⟨WP, hWP⟩ : ∃ W, wr.alloc (Obj.cells #[Value.int IntKind.i64 65, Value.string y.t, Value.int IntKind.i64 0, Value.slice (some ⟨bz, oz, none⟩) 1 ck] 24) = W := ⟨_, rfl⟩
                  have cP : Below wr.heap.size wr WP := by rw [← hWP]; exact bel_a _ _
                  have mP : WP.heap[wr.heap.size]? = some (.cells #[Value.int IntKind.i64 65, Value.string y.t, Value.int IntKind.i64 0, Value.slice (some ⟨bz, oz, none⟩) 1 ck] 24 (0, 0)) := by rw [← hWP]; exact heap_alloc_new _ _
                  rw [hWP]
                  clear hWP
                  have lP : wr.heap.size < WP.heap.size := (Array.getElem?_eq_some_iff.1 mP).1
                  have up : Hid (∀ W', Below WP.heap.size WP W' → Below wr.heap.size wr W') := fun W' b => cP.trans (b.mono cP.size)
                  have cs : Hid (∀ W', Below WP.heap.size WP W' → (W'.cell? ⟨wr.heap.size, 0, none⟩ = some (.int .i64 65) ∧ W'.cell? ⟨wr.heap.size, 1, none⟩ = some (.string y.t) ∧ W'.cell? ⟨wr.heap.size, 2, none⟩ = some (.int .i64 0) ∧ W'.cell? ⟨wr.heap.size, 3, none⟩ = some (.slice (some ⟨bz, oz, none⟩) 1 ck)) ∧ (W'.cell? ⟨bz, oz, none⟩ = some (.int .i64 z.k) ∧ W'.cell? ⟨bz, oz + 1, none⟩ = some (.string z.t) ∧ W'.cell? ⟨bz, oz + 2, none⟩ = some (.int .i64 z.n) ∧ W'.cell? ⟨bz, oz + 3, none⟩ = some (.slice az z.ks.length cz))) := fun W' b => ⟨(box4 ((b.block _ lP).trans mP)).1, HZ.out _ (bel.trans ((up.out _ b).mono bel.size))⟩
                  clear mP
                  have B0 : Below WP.heap.size WP WP.drew := (Below.refl _ _).drew
                  have hS0 := cs.out _ B0
                  refine wp_region_noPanic ?_
                  refine wp_region_held_drew (S := fun W' => (W'.cell? ⟨wr.heap.size, 0, none⟩ = some (.int .i64 65) ∧ W'.cell? ⟨wr.heap.size, 1, none⟩ = some (.string y.t) ∧ W'.cell? ⟨wr.heap.size, 2, none⟩ = some (.int .i64 0) ∧ W'.cell? ⟨wr.heap.size, 3, none⟩ = some (.slice (some ⟨bz, oz, none⟩) 1 ck)) ∧ (W'.cell? ⟨bz, oz, none⟩ = some (.int .i64 z.k) ∧ W'.cell? ⟨bz, oz + 1, none⟩ = some (.string z.t) ∧ W'.cell? ⟨bz, oz + 2, none⟩ = some (.int .i64 z.n) ∧ W'.cell? ⟨bz, oz + 3, none⟩ = some (.slice az z.ks.length cz))) (by kernel_rfl) hS0 (fun hHeld => ?_)
                  refine wpAnyH_take (i := 0) (v := ?zv3x0) rfl (by kernel_rfl) (by kernel_rfl) (by kernel_rfl) (fun _ _ _ h => h) (Or.inl ⟨by rfl, ?zy3x0⟩) (by assumption) ?zr3x0
                  case zy3x0 => (intro w hSw; (try dsimp only at hSw); (try simp only [List.getElem_toArray, List.getElem_cons_zero, List.getElem_cons_succ]); go_simp; first | done | with_reducible rfl)
                  simp only [Act.put, List.getElem_toArray, List.getElem_cons_zero, List.getElem_cons_succ, List.setIfInBounds_toArray, List.set_cons_zero, List.set_cons_succ]
                  refine wpAnyH_take (i := 1) (v := ?zv3x1) rfl (by kernel_rfl) (by kernel_rfl) (by kernel_rfl) (fun _ _ _ h => h) (Or.inl ⟨by rfl, ?zy3x1⟩) (by assumption) ?zr3x1
                  case zy3x1 => (intro w hSw; (try dsimp only at hSw); (try simp only [List.getElem_toArray, List.getElem_cons_zero, List.getElem_cons_succ]); go_simp; first | done | with_reducible rfl)
                  simp only [Act.put, List.getElem_toArray, List.getElem_cons_zero, List.getElem_cons_succ, List.setIfInBounds_toArray, List.set_cons_zero, List.set_cons_succ]
                  refine wpAnyH_take (i := 2) (v := ?zv3x2) rfl (by kernel_rfl) (by kernel_rfl) (by kernel_rfl) (fun _ _ _ h => h) (Or.inl ⟨by rfl, ?zy3x2⟩) (by assumption) ?zr3x2
                  case zy3x2 => (intro w hSw; (try dsimp only at hSw); (try simp only [List.getElem_toArray, List.getElem_cons_zero, List.getElem_cons_succ]); go_simp; first | done | with_reducible rfl)
                  simp only [Act.put, List.getElem_toArray, List.getElem_cons_zero, List.getElem_cons_succ, List.setIfInBounds_toArray, List.set_cons_zero, List.set_cons_succ]
                  refine wpAnyH_take (i := 3) (v := ?zv3x3) rfl (by kernel_rfl) (by kernel_rfl) (by kernel_rfl) (fun _ _ _ h => h) (Or.inl ⟨by rfl, ?zy3x3⟩) (by assumption) ?zr3x3
                  case zy3x3 => (intro w hSw; (try dsimp only at hSw); (try simp only [List.getElem_toArray, List.getElem_cons_zero, List.getElem_cons_succ]); go_simp; first | done | with_reducible rfl)
                  simp only [Act.put, List.getElem_toArray, List.getElem_cons_zero, List.getElem_cons_succ, List.setIfInBounds_toArray, List.set_cons_zero, List.set_cons_succ]
                  refine wpAnyH_take (i := 4) (v := ?zv3x4) rfl (by kernel_rfl) (by kernel_rfl) (by kernel_rfl) (fun _ _ _ h => h) (Or.inl ⟨by rfl, ?zy3x4⟩) (by assumption) ?zr3x4
                  case zy3x4 => (intro w hSw; (try dsimp only at hSw); (try simp only [List.getElem_toArray, List.getElem_cons_zero, List.getElem_cons_succ]); go_simp; first | done | with_reducible rfl)
                  simp only [Act.put, List.getElem_toArray, List.getElem_cons_zero, List.getElem_cons_succ, List.setIfInBounds_toArray, List.set_cons_zero, List.set_cons_succ]
                  refine wpAnyH_take (i := 5) (v := ?zv3x5) rfl (by kernel_rfl) (by kernel_rfl) (by kernel_rfl) (fun _ _ _ h => h) (Or.inl ⟨by rfl, ?zy3x5⟩) (by assumption) ?zr3x5
                  case zy3x5 => (intro w hSw; (try dsimp only at hSw); (try simp only [List.getElem_toArray, List.getElem_cons_zero, List.getElem_cons_succ]); go_simp; first | done | with_reducible rfl)
                  simp only [Act.put, List.getElem_toArray, List.getElem_cons_zero, List.getElem_cons_succ, List.setIfInBounds_toArray, List.set_cons_zero, List.set_cons_succ]
                  refine wpAnyH_take (i := 6) (v := ?zv3x6) rfl (by kernel_rfl) (by kernel_rfl) (by kernel_rfl) (fun _ _ _ h => h) (Or.inl ⟨by rfl, ?zy3x6⟩) (by assumption) ?zr3x6
                  case zy3x6 => (intro w hSw; (try dsimp only at hSw); (try simp only [List.getElem_toArray, List.getElem_cons_zero, List.getElem_cons_succ]); go_simp; first | done | with_reducible rfl)
                  simp only [Act.put, List.getElem_toArray, List.getElem_cons_zero, List.getElem_cons_succ, List.setIfInBounds_toArray, List.set_cons_zero, List.set_cons_succ]
                  refine wpAnyH_take (i := 7) (v := ?zv3x7) rfl (by kernel_rfl) (by kernel_rfl) (by kernel_rfl) (fun _ _ _ h => h) (Or.inl ⟨by rfl, ?zy3x7⟩) (by assumption) ?zr3x7
                  case zy3x7 => (intro w hSw; (try dsimp only at hSw); (try simp only [List.getElem_toArray, List.getElem_cons_zero, List.getElem_cons_succ]); go_simp; first | done | with_reducible rfl)
                  simp only [Act.put, List.getElem_toArray, List.getElem_cons_zero, List.getElem_cons_succ, List.setIfInBounds_toArray, List.set_cons_zero, List.set_cons_succ]
                  refine wpAnyH_take (i := 8) (v := ?zv3x8) rfl (by kernel_rfl) (by kernel_rfl) (by kernel_rfl) (fun _ _ _ h => h) (Or.inl ⟨by rfl, ?zy3x8⟩) (by assumption) ?zr3x8
                  case zy3x8 => (intro w hSw; (try dsimp only at hSw); (try simp only [List.getElem_toArray, List.getElem_cons_zero, List.getElem_cons_succ]); go_simp; first | done | with_reducible rfl)
                  simp only [Act.put, List.getElem_toArray, List.getElem_cons_zero, List.getElem_cons_succ, List.setIfInBounds_toArray, List.set_cons_zero, List.set_cons_succ]
                  refine wpAnyH_take (i := 9) (v := ?zv3x9) rfl (by kernel_rfl) (by kernel_rfl) (by kernel_rfl) (fun _ _ _ h => h) (Or.inl ⟨by rfl, ?zy3x9⟩) (by assumption) ?zr3x9
                  case zy3x9 => (intro w hSw; (try dsimp only at hSw); (try simp only [List.getElem_toArray, List.getElem_cons_zero, List.getElem_cons_succ]); go_simp; first | done | with_reducible rfl)
                  simp only [Act.put, List.getElem_toArray, List.getElem_cons_zero, List.getElem_cons_succ, List.setIfInBounds_toArray, List.set_cons_zero, List.set_cons_succ]
                  refine wpAnyH_take (i := 10) (v := ?zv3x10) rfl (by kernel_rfl) (by kernel_rfl) (by kernel_rfl) (fun _ _ _ h => h) (Or.inl ⟨by rfl, ?zy3x10⟩) (by assumption) ?zr3x10
                  case zy3x10 => (intro w hSw; (try dsimp only at hSw); (try simp only [List.getElem_toArray, List.getElem_cons_zero, List.getElem_cons_succ]); go_simp; first | done | with_reducible rfl)
                  simp only [Act.put, List.getElem_toArray, List.getElem_cons_zero, List.getElem_cons_succ, List.setIfInBounds_toArray, List.set_cons_zero, List.set_cons_succ]
                  refine wpAnyH_take (i := 11) (v := ?zv3x11) rfl (by kernel_rfl) (by kernel_rfl) (by kernel_rfl) (fun _ _ _ h => h) (Or.inl ⟨by rfl, ?zy3x11⟩) (by assumption) ?zr3x11
                  case zy3x11 => (intro w hSw; (try dsimp only at hSw); (try simp only [List.getElem_toArray, List.getElem_cons_zero, List.getElem_cons_succ]); go_simp; first | done | with_reducible rfl)
                  simp only [Act.put, List.getElem_toArray, List.getElem_cons_zero, List.getElem_cons_succ, List.setIfInBounds_toArray, List.set_cons_zero, List.set_cons_succ]
                  refine wpAnyH_take (i := 12) (v := ?zv3x12) rfl (by kernel_rfl) (by kernel_rfl) (by kernel_rfl) (fun _ _ _ h => h) (Or.inl ⟨by rfl, ?zy3x12⟩) (by assumption) ?zr3x12
                  case zy3x12 => (intro w hSw; (try dsimp only at hSw); (try simp only [List.getElem_toArray, List.getElem_cons_zero, List.getElem_cons_succ]); go_simp; first | done | with_reducible rfl)
                  simp only [Act.put, List.getElem_toArray, List.getElem_cons_zero, List.getElem_cons_succ, List.setIfInBounds_toArray, List.set_cons_zero, List.set_cons_succ]
                  refine wpAnyH_take (i := 13) (v := ?zv3x13) rfl (by kernel_rfl) (by kernel_rfl) (by kernel_rfl) (fun _ _ _ h => h) (Or.inl ⟨by rfl, ?zy3x13⟩) (by assumption) ?zr3x13
                  case zy3x13 => (intro w hSw; (try dsimp only at hSw); (try simp only [List.getElem_toArray, List.getElem_cons_zero, List.getElem_cons_succ]); go_simp; first | done | with_reducible rfl)
                  simp only [Act.put, List.getElem_toArray, List.getElem_cons_zero, List.getElem_cons_succ, List.setIfInBounds_toArray, List.set_cons_zero, List.set_cons_succ]
                  refine wpAnyH_take (i := 14) (v := ?zv3x14) rfl (by kernel_rfl) (by kernel_rfl) (by kernel_rfl) (fun _ _ _ h => h) (Or.inl ⟨by rfl, ?zy3x14⟩) (by assumption) ?zr3x14
                  case zy3x14 => (intro w hSw; (try dsimp only at hSw); (try simp only [List.getElem_toArray, List.getElem_cons_zero, List.getElem_cons_succ]); go_simp; first | done | with_reducible rfl)
                  simp only [Act.put, List.getElem_toArray, List.getElem_cons_zero, List.getElem_cons_succ, List.setIfInBounds_toArray, List.set_cons_zero, List.set_cons_succ]
                  refine wpAnyH_take (i := 15) (v := ?zv3x15) rfl (by kernel_rfl) (by kernel_rfl) (by kernel_rfl) (fun _ _ _ h => h) (Or.inl ⟨by rfl, ?zy3x15⟩) (by assumption) ?zr3x15
                  case zy3x15 => (intro w hSw; (try dsimp only at hSw); (try simp only [List.getElem_toArray, List.getElem_cons_zero, List.getElem_cons_succ]); go_simp; first | done | with_reducible rfl)
                  simp only [Act.put, List.getElem_toArray, List.getElem_cons_zero, List.getElem_cons_succ, List.setIfInBounds_toArray, List.set_cons_zero, List.set_cons_succ]
                  refine wpAnyH_take (i := 16) (v := ?zv3x16) rfl (by kernel_rfl) (by kernel_rfl) (by kernel_rfl) (fun _ _ _ h => h) (Or.inl ⟨by rfl, ?zy3x16⟩) (by assumption) ?zr3x16
                  case zy3x16 => (intro w hSw; (try dsimp only at hSw); (try simp only [List.getElem_toArray, List.getElem_cons_zero, List.getElem_cons_succ]); go_simp; first | done | with_reducible rfl)
                  simp only [Act.put, List.getElem_toArray, List.getElem_cons_zero, List.getElem_cons_succ, List.setIfInBounds_toArray, List.set_cons_zero, List.set_cons_succ]
                  refine wpAnyH_take (i := 17) (v := ?zv3x17) rfl (by kernel_rfl) (by kernel_rfl) (by kernel_rfl) (fun _ _ _ h => h) (Or.inl ⟨by rfl, ?zy3x17⟩) (by assumption) ?zr3x17
                  case zy3x17 => (intro w hSw; (try dsimp only at hSw); (try simp only [List.getElem_toArray, List.getElem_cons_zero, List.getElem_cons_succ]); go_simp; first | done | with_reducible rfl)
                  simp only [Act.put, List.getElem_toArray, List.getElem_cons_zero, List.getElem_cons_succ, List.setIfInBounds_toArray, List.set_cons_zero, List.set_cons_succ]
                  refine wpAnyH_take (i := 18) (v := ?zv3x18) rfl (by kernel_rfl) (by kernel_rfl) (by kernel_rfl) (fun _ _ _ h => h) (Or.inl ⟨by rfl, ?zy3x18⟩) (by assumption) ?zr3x18
                  case zy3x18 => (intro w hSw; (try dsimp only at hSw); (try simp only [List.getElem_toArray, List.getElem_cons_zero, List.getElem_cons_succ]); go_simp; first | done | with_reducible rfl)
                  simp only [Act.put, List.getElem_toArray, List.getElem_cons_zero, List.getElem_cons_succ, List.setIfInBounds_toArray, List.set_cons_zero, List.set_cons_succ]
                  refine wpAnyH_ready (rs := [19]) (by kernel_rfl) (by simp) ?_
                  refine AllReadyH.cons rfl (fun K hK => ?_) AllReadyH.nil
                  try simp only [List.getElem_toArray, List.getElem_cons_zero, List.getElem_cons_succ]
                  go_simp
                  refine (C2.out _ (bel.trans ((up.out _ B0).mono bel.size))).mono ?_
                  rintro e W1 ⟨rfl, b1⟩
                  have B1 := B0.trans (b1.mono B0.size)
                  have hS1 := cs.out _ B1
                  refine hK.out _ _ hS1 (fun hHeld1 => ?_)
                  clear hK K
                  try simp only [Act.put, List.getElem_toArray, List.getElem_cons_zero, List.getElem_cons_succ, List.setIfInBounds_toArray, List.set_cons_zero, List.set_cons_succ]
                  refine wpAnyH_take (i := 20) (v := ?zv3x20) rfl (by kernel_rfl) (by kernel_rfl) (by kernel_rfl) (fun _ _ _ h => h) (Or.inl ⟨by rfl, ?zy3x20⟩) (by assumption) ?zr3x20
                  case zy3x20 => (intro w hSw; (try dsimp only at hSw); (try simp only [List.getElem_toArray, List.getElem_cons_zero, List.getElem_cons_succ]); go_simp; first | done | with_reducible rfl)
                  simp only [Act.put, List.getElem_toArray, List.getElem_cons_zero, List.getElem_cons_succ, List.setIfInBounds_toArray, List.set_cons_zero, List.set_cons_succ]
                  refine wpAnyH_take (i := 21) (v := ?zv3x21) rfl (by kernel_rfl) (by kernel_rfl) (by kernel_rfl) (fun _ _ _ h => h) (Or.inl ⟨by rfl, ?zy3x21⟩) (by assumption) ?zr3x21
                  case zy3x21 => (intro w hSw; (try dsimp only at hSw); (try simp only [List.getElem_toArray, List.getElem_cons_zero, List.getElem_cons_succ]); go_simp; first | done | with_reducible rfl)
                  simp only [Act.put, List.getElem_toArray, List.getElem_cons_zero, List.getElem_cons_succ, List.setIfInBounds_toArray, List.set_cons_zero, List.set_cons_succ]
                  refine wpAnyH_take (i := 22) (v := ?zv3x22) rfl (by kernel_rfl) (by kernel_rfl) (by kernel_rfl) (fun _ _ _ h => h) (Or.inl ⟨by rfl, ?zy3x22⟩) (by assumption) ?zr3x22
                  case zy3x22 => (intro w hSw; (try dsimp only at hSw); (try simp only [List.getElem_toArray, List.getElem_cons_zero, List.getElem_cons_succ]); go_simp; first | done | with_reducible rfl)
                  simp only [Act.put, List.getElem_toArray, List.getElem_cons_zero, List.getElem_cons_succ, List.setIfInBounds_toArray, List.set_cons_zero, List.set_cons_succ]
                  refine wpAnyH_take (i := 23) (v := ?zv3x23) rfl (by kernel_rfl) (by kernel_rfl) (by kernel_rfl) (fun _ _ _ h => h) (Or.inl ⟨by rfl, ?zy3x23⟩) (by assumption) ?zr3x23
                  case zy3x23 => (intro w hSw; (try dsimp only at hSw); (try simp only [List.getElem_toArray, List.getElem_cons_zero, List.getElem_cons_succ]); go_simp; first | done | with_reducible rfl)
                  simp only [Act.put, List.getElem_toArray, List.getElem_cons_zero, List.getElem_cons_succ, List.setIfInBounds_toArray, List.set_cons_zero, List.set_cons_succ]
                  refine wpAnyH_take (i := 24) (v := ?zv3x24) rfl (by kernel_rfl) (by kernel_rfl) (by kernel_rfl) (fun _ _ _ h => h) (Or.inl ⟨by rfl, ?zy3x24⟩) (by assumption) ?zr3x24
                  case zy3x24 => (intro w hSw; (try dsimp only at hSw); (try simp only [List.getElem_toArray, List.getElem_cons_zero, List.getElem_cons_succ]); go_simp; first | done | with_reducible rfl)
                  simp only [Act.put, List.getElem_toArray, List.getElem_cons_zero, List.getElem_cons_succ, List.setIfInBounds_toArray, List.set_cons_zero, List.set_cons_succ]
                  refine wpAnyH_take (i := 25) (v := ?zv3x25) rfl (by kernel_rfl) (by kernel_rfl) (by kernel_rfl) (fun _ _ _ h => h) (Or.inl ⟨by rfl, ?zy3x25⟩) (by assumption) ?zr3x25
                  case zy3x25 => (intro w hSw; (try dsimp only at hSw); (try simp only [List.getElem_toArray, List.getElem_cons_zero, List.getElem_cons_succ]); go_simp; first | done | with_reducible rfl)
                  simp only [Act.put, List.getElem_toArray, List.getElem_cons_zero, List.getElem_cons_succ, List.setIfInBounds_toArray, List.set_cons_zero, List.set_cons_succ]
                  refine wpAnyH_ready (rs := [26]) (by kernel_rfl) (by simp) ?_
                  refine AllReadyH.cons rfl (fun K hK => ?_) AllReadyH.nil
                  try simp only [List.getElem_toArray, List.getElem_cons_zero, List.getElem_cons_succ]
                  go_simp
                  refine (C3.out _ (bel.trans ((up.out _ B1).mono bel.size))).mono ?_
                  rintro e W2 ⟨rfl, b2⟩
                  have B2 := B1.trans (b2.mono B1.size)
                  have hS2 := cs.out _ B2
                  refine hK.out _ _ hS2 (fun hHeld2 => ?_)
                  clear hK K
                  try simp only [Act.put, List.getElem_toArray, List.getElem_cons_zero, List.getElem_cons_succ, List.setIfInBounds_toArray, List.set_cons_zero, List.set_cons_succ]
                  refine wpAnyH_take (i := 27) (v := ?zv3x27) rfl (by kernel_rfl) (by kernel_rfl) (by kernel_rfl) (fun _ _ _ h => h) (Or.inl ⟨by rfl, ?zy3x27⟩) (by assumption) ?zr3x27
                  case zy3x27 => (intro w hSw; (try dsimp only at hSw); (try simp only [List.getElem_toArray, List.getElem_cons_zero, List.getElem_cons_succ]); go_simp; first | done | with_reducible rfl)
                  simp only [Act.put, List.getElem_toArray, List.getElem_cons_zero, List.getElem_cons_succ, List.setIfInBounds_toArray, List.set_cons_zero, List.set_cons_succ]
                  refine wpAnyH_take (i := 28) (v := ?zv3x28) rfl (by kernel_rfl) (by kernel_rfl) (by kernel_rfl) (fun _ _ _ h => h) (Or.inl ⟨by rfl, ?zy3x28⟩) (by assumption) ?zr3x28
                  case zy3x28 => (intro w hSw; (try dsimp only at hSw); (try simp only [List.getElem_toArray, List.getElem_cons_zero, List.getElem_cons_succ]); go_simp; first | done | with_reducible rfl)
                  simp only [Act.put, List.getElem_toArray, List.getElem_cons_zero, List.getElem_cons_succ, List.setIfInBounds_toArray, List.set_cons_zero, List.set_cons_succ]
                  refine wpAnyH_take (i := 29) (v := ?zv3x29) rfl (by kernel_rfl) (by kernel_rfl) (by kernel_rfl) (fun _ _ _ h => h) (Or.inl ⟨by rfl, ?zy3x29⟩) (by assumption) ?zr3x29
                  case zy3x29 => (intro w hSw; (try dsimp only at hSw); (try simp only [List.getElem_toArray, List.getElem_cons_zero, List.getElem_cons_succ]); go_simp; first | done | with_reducible rfl)
                  simp only [Act.put, List.getElem_toArray, List.getElem_cons_zero, List.getElem_cons_succ, List.setIfInBounds_toArray, List.set_cons_zero, List.set_cons_succ]
                  refine wpAnyH_take (i := 30) (v := ?zv3x30) rfl (by kernel_rfl) (by kernel_rfl) (by kernel_rfl) (fun _ _ _ h => h) (Or.inl ⟨by rfl, ?zy3x30⟩) (by assumption) ?zr3x30
                  case zy3x30 => (intro w hSw; (try dsimp only at hSw); (try simp only [List.getElem_toArray, List.getElem_cons_zero, List.getElem_cons_succ]); go_simp; first | done | with_reducible rfl)
                  simp only [Act.put, List.getElem_toArray, List.getElem_cons_zero, List.getElem_cons_succ, List.setIfInBounds_toArray, List.set_cons_zero, List.set_cons_succ]
                  refine wpAnyH_take (i := 31) (v := ?zv3x31) rfl (by kernel_rfl) (by kernel_rfl) (by kernel_rfl) (fun _ _ _ h => h) (Or.inl ⟨by rfl, ?zy3x31⟩) (by assumption) ?zr3x31
                  case zy3x31 => (intro w hSw; (try dsimp only at hSw); (try simp only [List.getElem_toArray, List.getElem_cons_zero, List.getElem_cons_succ]); go_simp; first | done | with_reducible rfl)
                  simp only [Act.put, List.getElem_toArray, List.getElem_cons_zero, List.getElem_cons_succ, List.setIfInBounds_toArray, List.set_cons_zero, List.set_cons_succ]
                  refine wpAnyH_take (i := 32) (v := ?zv3x32) rfl (by kernel_rfl) (by kernel_rfl) (by kernel_rfl) (fun _ _ _ h => h) (Or.inl ⟨by rfl, ?zy3x32⟩) (by assumption) ?zr3x32
                  case zy3x32 => (intro w hSw; (try dsimp only at hSw); (try simp only [List.getElem_toArray, List.getElem_cons_zero, List.getElem_cons_succ]); go_simp; first | done | with_reducible rfl)
                  simp only [Act.put, List.getElem_toArray, List.getElem_cons_zero, List.getElem_cons_succ, List.setIfInBounds_toArray, List.set_cons_zero, List.set_cons_succ]
                  refine wpAnyH_take (i := 33) (v := ?zv3x33) rfl (by kernel_rfl) (by kernel_rfl) (by kernel_rfl) (fun _ _ _ h => h) (Or.inl ⟨by rfl, ?zy3x33⟩) (by assumption) ?zr3x33
                  case zy3x33 => (intro w hSw; (try dsimp only at hSw); (try simp only [List.getElem_toArray, List.getElem_cons_zero, List.getElem_cons_succ]); go_simp; first | done | with_reducible rfl)
                  simp only [Act.put, List.getElem_toArray, List.getElem_cons_zero, List.getElem_cons_succ, List.setIfInBounds_toArray, List.set_cons_zero, List.set_cons_succ]
                  refine wpAnyH_take (i := 34) (v := ?zv3x34) rfl (by kernel_rfl) (by kernel_rfl) (by kernel_rfl) (fun _ _ _ h => h) (Or.inl ⟨by rfl, ?zy3x34⟩) (by assumption) ?zr3x34
                  case zy3x34 => (intro w hSw; (try dsimp only at hSw); (try simp only [List.getElem_toArray, List.getElem_cons_zero, List.getElem_cons_succ]); go_simp; first | done | with_reducible rfl)
                  simp only [Act.put, List.getElem_toArray, List.getElem_cons_zero, List.getElem_cons_succ, List.setIfInBounds_toArray, List.set_cons_zero, List.set_cons_succ]
                  refine wpAnyH_take (i := 35) (v := ?zv3x35) rfl (by kernel_rfl) (by kernel_rfl) (by kernel_rfl) (fun _ _ _ h => h) (Or.inl ⟨by rfl, ?zy3x35⟩) (by assumption) ?zr3x35
                  case zy3x35 => (intro w hSw; (try dsimp only at hSw); (try simp only [List.getElem_toArray, List.getElem_cons_zero, List.getElem_cons_succ]); go_simp; first | done | with_reducible rfl)
                  simp only [Act.put, List.getElem_toArray, List.getElem_cons_zero, List.getElem_cons_succ, List.setIfInBounds_toArray, List.set_cons_zero, List.set_cons_succ]
                  refine wpAnyH_take (i := 36) (v := ?zv3x36) rfl (by kernel_rfl) (by kernel_rfl) (by kernel_rfl) (fun _ _ _ h => h) (Or.inl ⟨by rfl, ?zy3x36⟩) (by assumption) ?zr3x36
                  case zy3x36 => (intro w hSw; (try dsimp only at hSw); (try simp only [List.getElem_toArray, List.getElem_cons_zero, List.getElem_cons_succ]); go_simp; first | done | with_reducible rfl)
                  simp only [Act.put, List.getElem_toArray, List.getElem_cons_zero, List.getElem_cons_succ, List.setIfInBounds_toArray, List.set_cons_zero, List.set_cons_succ]
                  refine wpAnyH_take (i := 37) (v := ?zv3x37) rfl (by kernel_rfl) (by kernel_rfl) (by kernel_rfl) (fun _ _ _ h => h) (Or.inl ⟨by rfl, ?zy3x37⟩) (by assumption) ?zr3x37
                  case zy3x37 => (intro w hSw; (try dsimp only at hSw); (try simp only [List.getElem_toArray, List.getElem_cons_zero, List.getElem_cons_succ]); go_simp; first | done | with_reducible rfl)
                  simp only [Act.put, List.getElem_toArray, List.getElem_cons_zero, List.getElem_cons_succ, List.setIfInBounds_toArray, List.set_cons_zero, List.set_cons_succ]
                  refine wpAnyH_take (i := 38) (v := ?zv3x38) rfl (by kernel_rfl) (by kernel_rfl) (by kernel_rfl) (fun _ _ _ h => h) (Or.inl ⟨by rfl, ?zy3x38⟩) (by assumption) ?zr3x38
                  case zy3x38 => (intro w hSw; (try dsimp only at hSw); (try simp only [List.getElem_toArray, List.getElem_cons_zero, List.getElem_cons_succ]); go_simp; first | done | with_reducible rfl)
                  simp only [Act.put, List.getElem_toArray, List.getElem_cons_zero, List.getElem_cons_succ, List.setIfInBounds_toArray, List.set_cons_zero, List.set_cons_succ]
                  refine wpAnyH_take (i := 39) (v := ?zv3x39) rfl (by kernel_rfl) (by kernel_rfl) (by kernel_rfl) (fun _ _ _ h => h) (Or.inl ⟨by rfl, ?zy3x39⟩) (by assumption) ?zr3x39
                  case zy3x39 => (intro w hSw; (try dsimp only at hSw); (try simp only [List.getElem_toArray, List.getElem_cons_zero, List.getElem_cons_succ]); go_simp; first | done | with_reducible rfl)
                  simp only [Act.put, List.getElem_toArray, List.getElem_cons_zero, List.getElem_cons_succ, List.setIfInBounds_toArray, List.set_cons_zero, List.set_cons_succ]
                  refine wpAnyH_done (by kernel_rfl) ?_ _
                  refine NoPanic.normal ?_
                  obtain ⟨⟨_, _, _, _⟩, ⟨_, _, _, _⟩⟩ := cs.out _ B2
                  obtain ⟨_, _, _, _⟩ := kp.out _ (bel0.trans ((up.out _ B2).mono sz))
                  go_wp2
                  go_ret
                  exact ⟨ret_b (by first | rw [Bool.true_and, HR.out] | rw [HR.out]), (bel.trans ((up.out _ B2).mono bel.size))⟩
                | false =>
                  have HP : Hid (elB l.length t 0 y = (if (y.t.toList == [42]) = true then decide (l.length ≤ 1) && !(t.toList == []) && ((0 : Int) == 0) else propT false y.t.data.toList && (!(t.toList == []) || idT false y.t))) := by show _ = _; rw [HP2.out, hzt]; rfl
                  clear HP2
                  go_wp2_with fail
                  obtain ⟨WP, hWP⟩ : ∃ W, wr.alloc (Obj.cells #[Value.int IntKind.i64 65, Value.string y.t, Value.int IntKind.i64 0, Value.slice (some ⟨bz, oz, none⟩) 1 ck] 24) = W := ⟨_, rfl⟩
                  have cP : Below wr.heap.size wr WP := by rw [← hWP]; exact bel_a _ _
                  have mP : WP.heap[wr.heap.size]? = some (.cells #[Value.int IntKind.i64 65, Value.string y.t, Value.int IntKind.i64 0, Value.slice (some ⟨bz, oz, none⟩) 1 ck] 24 (0, 0)) := by rw [← hWP]; exact heap_alloc_new _ _
                  rw [hWP]
                  clear hWP
                  have lP : wr.heap.size < WP.heap.size := (Array.getElem?_eq_some_iff.1 mP).1
                  have up : Hid (∀ W', Below WP.heap.size WP W' → Below wr.heap.size wr W') := fun W' b => cP.trans (b.mono cP.size)
                  have cs : Hid (∀ W', Below WP.heap.size WP W' → (W'.cell? ⟨wr.heap.size, 0, none⟩ = some (.int .i64 65) ∧ W'.cell? ⟨wr.heap.size, 1, none⟩ = some (.string y.t) ∧ W'.cell? ⟨wr.heap.size, 2, none⟩ = some (.int .i64 0) ∧ W'.cell? ⟨wr.heap.size, 3, none⟩ = some (.slice (some ⟨bz, oz, none⟩) 1 ck)) ∧ (W'.cell? ⟨bz, oz, none⟩ = some (.int .i64 z.k) ∧ W'.cell? ⟨bz, oz + 1, none⟩ = some (.string z.t) ∧ W'.cell? ⟨bz, oz + 2, none⟩ = some (.int .i64 z.n) ∧ W'.cell? ⟨bz, oz + 3, none⟩ = some (.slice az z.ks.length cz))) := fun W' b => ⟨(box4 ((b.block _ lP).trans mP)).1, HZ.out _ (bel.trans ((up.out _ b).mono bel.size))⟩
                  clear mP
                  have B0 : Below WP.heap.size WP WP.drew := (Below.refl _ _).drew
                  have hS0 := cs.out _ B0
                  refine wp_region_noPanic ?_
                  refine wp_region_held_drew (S := fun W' => (W'.cell? ⟨wr.heap.size, 0, none⟩ = some (.int .i64 65) ∧ W'.cell? ⟨wr.heap.size, 1, none⟩ = some (.string y.t) ∧ W'.cell? ⟨wr.heap.size, 2, none⟩ = some (.int .i64 0) ∧ W'.cell? ⟨wr.heap.size, 3, none⟩ = some (.slice (some ⟨bz, oz, none⟩) 1 ck)) ∧ (W'.cell? ⟨bz, oz, none⟩ = some (.int .i64 z.k) ∧ W'.cell? ⟨bz, oz + 1, none⟩ = some (.string z.t) ∧ W'.cell? ⟨bz, oz + 2, none⟩ = some (.int .i64 z.n) ∧ W'.cell? ⟨bz, oz + 3, none⟩ = some (.slice az z.ks.length cz))) (by kernel_rfl) hS0 (fun hHeld => ?_)
                  refine wpAnyH_take (i := 0) (v := ?zv4x0) rfl (by kernel_rfl) (by kernel_rfl) (by kernel_rfl) (fun _ _ _ h => h) (Or.inl ⟨by rfl, ?zy4x0⟩) (by assumption) ?zr4x0
                  case zy4x0 => (intro w hSw; (try dsimp only at hSw); (try simp only [List.getElem_toArray, List.getElem_cons_zero, List.getElem_cons_succ]); go_simp; first | done | with_reducible rfl)
                  simp only [Act.put, List.getElem_toArray, List.getElem_cons_zero, List.getElem_cons_succ, List.setIfInBounds_toArray, List.set_cons_zero, List.set_cons_succ]
                  refine wpAnyH_take (i := 1) (v := ?zv4x1) rfl (by kernel_rfl) (by kernel_rfl) (by kernel_rfl) (fun _ _ _ h => h) (Or.inl ⟨by rfl, ?zy4x1⟩) (by assumption) ?zr4x1
                  case zy4x1 => (intro w hSw; (try dsimp only at hSw); (try simp only [List.getElem_toArray, List.getElem_cons_zero, List.getElem_cons_succ]); go_simp; first | done | with_reducible rfl)
                  simp only [Act.put, List.getElem_toArray, List.getElem_cons_zero, List.getElem_cons_succ, List.setIfInBounds_toArray, List.set_cons_zero, List.set_cons_succ]
                  refine wpAnyH_take (i := 2) (v := ?zv4x2) rfl (by kernel_rfl) (by kernel_rfl) (by kernel_rfl) (fun _ _ _ h => h) (Or.inl ⟨by rfl, ?zy4x2⟩) (by assumption) ?zr4x2
                  case zy4x2 => (intro w hSw; (try dsimp only at hSw); (try simp only [List.getElem_toArray, List.getElem_cons_zero, List.getElem_cons_succ]); go_simp; first | done | with_reducible rfl)
                  simp only [Act.put, List.getElem_toArray, List.getElem_cons_zero, List.getElem_cons_succ, List.setIfInBounds_toArray, List.set_cons_zero, List.set_cons_succ]
                  refine wpAnyH_take (i := 3) (v := ?zv4x3) rfl (by kernel_rfl) (by kernel_rfl) (by kernel_rfl) (fun _ _ _ h => h) (Or.inl ⟨by rfl, ?zy4x3⟩) (by assumption) ?zr4x3
                  case zy4x3 => (intro w hSw; (try dsimp only at hSw); (try simp only [List.getElem_toArray, List.getElem_cons_zero, List.getElem_cons_succ]); go_simp; first | done | with_reducible rfl)
                  simp only [Act.put, List.getElem_toArray, List.getElem_cons_zero, List.getElem_cons_succ, List.setIfInBounds_toArray, List.set_cons_zero, List.set_cons_succ]
                  refine wpAnyH_take (i := 4) (v := ?zv4x4) rfl (by kernel_rfl) (by kernel_rfl) (by kernel_rfl) (fun _ _ _ h => h) (Or.inl ⟨by rfl, ?zy4x4⟩) (by assumption) ?zr4x4
                  case zy4x4 => (intro w hSw; (try dsimp only at hSw); (try simp only [List.getElem_toArray, List.getElem_cons_zero, List.getElem_cons_succ]); go_simp; first | done | with_reducible rfl)
                  simp only [Act.put, List.getElem_toArray, List.getElem_cons_zero, List.getElem_cons_succ, List.setIfInBounds_toArray, List.set_cons_zero, List.set_cons_succ]
                  refine wpAnyH_take (i := 5) (v := ?zv4x5) rfl (by kernel_rfl) (by kernel_rfl) (by kernel_rfl) (fun _ _ _ h => h) (Or.inl ⟨by rfl, ?zy4x5⟩) (by assumption) ?zr4x5
                  case zy4x5 => (intro w hSw; (try dsimp only at hSw); (try simp only [List.getElem_toArray, List.getElem_cons_zero, List.getElem_cons_succ]); go_simp; first | done | with_reducible rfl)
                  simp only [Act.put, List.getElem_toArray, List.getElem_cons_zero, List.getElem_cons_succ, List.setIfInBounds_toArray, List.set_cons_zero, List.set_cons_succ]
                  refine wpAnyH_take (i := 6) (v := ?zv4x6) rfl (by kernel_rfl) (by kernel_rfl) (by kernel_rfl) (fun _ _ _ h => h) (Or.inl ⟨by rfl, ?zy4x6⟩) (by assumption) ?zr4x6
                  case zy4x6 => (intro w hSw; (try dsimp only at hSw); (try simp only [List.getElem_toArray, List.getElem_cons_zero, List.getElem_cons_succ]); go_simp; first | done | with_reducible rfl)
                  simp only [Act.put, List.getElem_toArray, List.getElem_cons_zero, List.getElem_cons_succ, List.setIfInBounds_toArray, List.set_cons_zero, List.set_cons_succ]
                  refine wpAnyH_take (i := 7) (v := ?zv4x7) rfl (by kernel_rfl) (by kernel_rfl) (by kernel_rfl) (fun _ _ _ h => h) (Or.inl ⟨by rfl, ?zy4x7⟩) (by assumption) ?zr4x7
                  case zy4x7 => (intro w hSw; (try dsimp only at hSw); (try simp only [List.getElem_toArray, List.getElem_cons_zero, List.getElem_cons_succ]); go_simp; first | done | with_reducible rfl)
                  simp only [Act.put, List.getElem_toArray, List.getElem_cons_zero, List.getElem_cons_succ, List.setIfInBounds_toArray, List.set_cons_zero, List.set_cons_succ]
                  refine wpAnyH_take (i := 8) (v := ?zv4x8) rfl (by kernel_rfl) (by kernel_rfl) (by kernel_rfl) (fun _ _ _ h => h) (Or.inl ⟨by rfl, ?zy4x8⟩) (by assumption) ?zr4x8
                  case zy4x8 => (intro w hSw; (try dsimp only at hSw); (try simp only [List.getElem_toArray, List.getElem_cons_zero, List.getElem_cons_succ]); go_simp; first | done | with_reducible rfl)
                  simp only [Act.put, List.getElem_toArray, List.getElem_cons_zero, List.getElem_cons_succ, List.setIfInBounds_toArray, List.set_cons_zero, List.set_cons_succ]
                  refine wpAnyH_take (i := 9) (v := ?zv4x9) rfl (by kernel_rfl) (by kernel_rfl) (by kernel_rfl) (fun _ _ _ h => h) (Or.inl ⟨by rfl, ?zy4x9⟩) (by assumption) ?zr4x9
                  case zy4x9 => (intro w hSw; (try dsimp only at hSw); (try simp only [List.getElem_toArray, List.getElem_cons_zero, List.getElem_cons_succ]); go_simp; first | done | with_reducible rfl)
                  simp only [Act.put, List.getElem_toArray, List.getElem_cons_zero, List.getElem_cons_succ, List.setIfInBounds_toArray, List.set_cons_zero, List.set_cons_succ]
                  refine wpAnyH_take (i := 10) (v := ?zv4x10) rfl (by kernel_rfl) (by kernel_rfl) (by kernel_rfl) (fun _ _ _ h => h) (Or.inl ⟨by rfl, ?zy4x10⟩) (by assumption) ?zr4x10
                  case zy4x10 => (intro w hSw; (try dsimp only at hSw); (try simp only [List.getElem_toArray, List.getElem_cons_zero, List.getElem_cons_succ]); go_simp; first | done | with_reducible rfl)
                  simp only [Act.put, List.getElem_toArray, List.getElem_cons_zero, List.getElem_cons_succ, List.setIfInBounds_toArray, List.set_cons_zero, List.set_cons_succ]
                  refine wpAnyH_take (i := 11) (v := ?zv4x11) rfl (by kernel_rfl) (by kernel_rfl) (by kernel_rfl) (fun _ _ _ h => h) (Or.inl ⟨by rfl, ?zy4x11⟩) (by assumption) ?zr4x11
                  case zy4x11 => (intro w hSw; (try dsimp only at hSw); (try simp only [List.getElem_toArray, List.getElem_cons_zero, List.getElem_cons_succ]); go_simp; first | done | with_reducible rfl)
                  simp only [Act.put, List.getElem_toArray, List.getElem_cons_zero, List.getElem_cons_succ, List.setIfInBounds_toArray, List.set_cons_zero, List.set_cons_succ]
                  refine wpAnyH_take (i := 12) (v := ?zv4x12) rfl (by kernel_rfl) (by kernel_rfl) (by kernel_rfl) (fun _ _ _ h => h) (Or.inl ⟨by rfl, ?zy4x12⟩) (by assumption) ?zr4x12
                  case zy4x12 => (intro w hSw; (try dsimp only at hSw); (try simp only [List.getElem_toArray, List.getElem_cons_zero, List.getElem_cons_succ]); go_simp; first | done | with_reducible rfl)
                  simp only [Act.put, List.getElem_toArray, List.getElem_cons_zero, List.getElem_cons_succ, List.setIfInBounds_toArray, List.set_cons_zero, List.set_cons_succ]
                  refine wpAnyH_take (i := 13) (v := ?zv4x13) rfl (by kernel_rfl) (by kernel_rfl) (by kernel_rfl) (fun _ _ _ h => h) (Or.inl ⟨by rfl, ?zy4x13⟩) (by assumption) ?zr4x13
                  case zy4x13 => (intro w hSw; (try dsimp only at hSw); (try simp only [List.getElem_toArray, List.getElem_cons_zero, List.getElem_cons_succ]); go_simp; first | done | with_reducible rfl)
                  simp only [Act.put, List.getElem_toArray, List.getElem_cons_zero, List.getElem_cons_succ, List.setIfInBounds_toArray, List.set_cons_zero, List.set_cons_succ]
                  refine wpAnyH_take (i := 14) (v := ?zv4x14) rfl (by kernel_rfl) (by kernel_rfl) (by kernel_rfl) (fun _ _ _ h => h) (Or.inl ⟨by rfl, ?zy4x14⟩) (by assumption) ?zr4x14
                  case zy4x14 => (intro w hSw; (try dsimp only at hSw); (try simp only [List.getElem_toArray, List.getElem_cons_zero, List.getElem_cons_succ]); go_simp; first | done | with_reducible rfl)
                  simp only [Act.put, List.getElem_toArray, List.getElem_cons_zero, List.getElem_cons_succ, List.setIfInBounds_toArray, List.set_cons_zero, List.set_cons_succ]
                  refine wpAnyH_take (i := 15) (v := ?zv4x15) rfl (by kernel_rfl) (by kernel_rfl) (by kernel_rfl) (fun _ _ _ h => h) (Or.inl ⟨by rfl, ?zy4x15⟩) (by assumption) ?zr4x15
                  case zy4x15 => (intro w hSw; (try dsimp only at hSw); (try simp only [List.getElem_toArray, List.getElem_cons_zero, List.getElem_cons_succ]); go_simp; first | done | with_reducible rfl)
                  simp only [Act.put, List.getElem_toArray, List.getElem_cons_zero, List.getElem_cons_succ, List.setIfInBounds_toArray, List.set_cons_zero, List.set_cons_succ]
                  refine wpAnyH_take (i := 16) (v := ?zv4x16) rfl (by kernel_rfl) (by kernel_rfl) (by kernel_rfl) (fun _ _ _ h => h) (Or.inl ⟨by rfl, ?zy4x16⟩) (by assumption) ?zr4x16
                  case zy4x16 => (intro w hSw; (try dsimp only at hSw); (try simp only [List.getElem_toArray, List.getElem_cons_zero, List.getElem_cons_succ]); go_simp; first | done | with_reducible rfl)
                  simp only [Act.put, List.getElem_toArray, List.getElem_cons_zero, List.getElem_cons_succ, List.setIfInBounds_toArray, List.set_cons_zero, List.set_cons_succ]
                  refine wpAnyH_take (i := 17) (v := ?zv4x17) rfl (by kernel_rfl) (by kernel_rfl) (by kernel_rfl) (fun _ _ _ h => h) (Or.inl ⟨by rfl, ?zy4x17⟩) (by assumption) ?zr4x17
                  case zy4x17 => (intro w hSw; (try dsimp only at hSw); (try simp only [List.getElem_toArray, List.getElem_cons_zero, List.getElem_cons_succ]); go_simp; first | done | with_reducible rfl)
                  simp only [Act.put, List.getElem_toArray, List.getElem_cons_zero, List.getElem_cons_succ, List.setIfInBounds_toArray, List.set_cons_zero, List.set_cons_succ]
                  refine wpAnyH_take (i := 18) (v := ?zv4x18) rfl (by kernel_rfl) (by kernel_rfl) (by kernel_rfl) (fun _ _ _ h => h) (Or.inl ⟨by rfl, ?zy4x18⟩) (by assumption) ?zr4x18
                  case zy4x18 => (intro w hSw; (try dsimp only at hSw); (try simp only [List.getElem_toArray, List.getElem_cons_zero, List.getElem_cons_succ]); go_simp; first | done | with_reducible rfl)
                  simp only [Act.put, List.getElem_toArray, List.getElem_cons_zero, List.getElem_cons_succ, List.setIfInBounds_toArray, List.set_cons_zero, List.set_cons_succ]
                  refine wpAnyH_ready (rs := [19]) (by kernel_rfl) (by simp) ?_
                  refine AllReadyH.cons rfl (fun K hK => ?_) AllReadyH.nil
                  try simp only [List.getElem_toArray, List.getElem_cons_zero, List.getElem_cons_succ]
                  go_simp
                  refine (C2.out _ (bel.trans ((up.out _ B0).mono bel.size))).mono ?_
                  rintro e W1 ⟨rfl, b1⟩
                  have B1 := B0.trans (b1.mono B0.size)
                  have hS1 := cs.out _ B1
                  refine hK.out _ _ hS1 (fun hHeld1 => ?_)
                  clear hK K
                  try simp only [Act.put, List.getElem_toArray, List.getElem_cons_zero, List.getElem_cons_succ, List.setIfInBounds_toArray, List.set_cons_zero, List.set_cons_succ]
                  refine wpAnyH_take (i := 20) (v := ?zv4x20) rfl (by kernel_rfl) (by kernel_rfl) (by kernel_rfl) (fun _ _ _ h => h) (Or.inl ⟨by rfl, ?zy4x20⟩) (by assumption) ?zr4x20
                  case zy4x20 => (intro w hSw; (try dsimp only at hSw); (try simp only [List.getElem_toArray, List.getElem_cons_zero, List.getElem_cons_succ]); go_simp; first | done | with_reducible rfl)
                  simp only [Act.put, List.getElem_toArray, List.getElem_cons_zero, List.getElem_cons_succ, List.setIfInBounds_toArray, List.set_cons_zero, List.set_cons_succ]
                  refine wpAnyH_take (i := 21) (v := ?zv4x21) rfl (by kernel_rfl) (by kernel_rfl) (by kernel_rfl) (fun _ _ _ h => h) (Or.inl ⟨by rfl, ?zy4x21⟩) (by assumption) ?zr4x21
                  case zy4x21 => (intro w hSw; (try dsimp only at hSw); (try simp only [List.getElem_toArray, List.getElem_cons_zero, List.getElem_cons_succ]); go_simp; first | done | with_reducible rfl)
                  simp only [Act.put, List.getElem_toArray, List.getElem_cons_zero, List.getElem_cons_succ, List.setIfInBounds_toArray, List.set_cons_zero, List.set_cons_succ]
                  refine wpAnyH_take (i := 22) (v := ?zv4x22) rfl (by kernel_rfl) (by kernel_rfl) (by kernel_rfl) (fun _ _ _ h => h) (Or.inl ⟨by rfl, ?zy4x22⟩) (by assumption) ?zr4x22
                  case zy4x22 => (intro w hSw; (try dsimp only at hSw); (try simp only [List.getElem_toArray, List.getElem_cons_zero, List.getElem_cons_succ]); go_simp; first | done | with_reducible rfl)
                  simp only [Act.put, List.getElem_toArray, List.getElem_cons_zero, List.getElem_cons_succ, List.setIfInBounds_toArray, List.set_cons_zero, List.set_cons_succ]
                  refine wpAnyH_take (i := 23) (v := ?zv4x23) rfl (by kernel_rfl) (by kernel_rfl) (by kernel_rfl) (fun _ _ _ h => h) (Or.inl ⟨by rfl, ?zy4x23⟩) (by assumption) ?zr4x23
                  case zy4x23 => (intro w hSw; (try dsimp only at hSw); (try simp only [List.getElem_toArray, List.getElem_cons_zero, List.getElem_cons_succ]); go_simp; first | done | with_reducible rfl)
                  simp only [Act.put, List.getElem_toArray, List.getElem_cons_zero, List.getElem_cons_succ, List.setIfInBounds_toArray, List.set_cons_zero, List.set_cons_succ]
                  refine wpAnyH_take (i := 24) (v := ?zv4x24) rfl (by kernel_rfl) (by kernel_rfl) (by kernel_rfl) (fun _ _ _ h => h) (Or.inl ⟨by rfl, ?zy4x24⟩) (by assumption) ?zr4x24
                  case zy4x24 => (intro w hSw; (try dsimp only at hSw); (try simp only [List.getElem_toArray, List.getElem_cons_zero, List.getElem_cons_succ]); go_simp; first | done | with_reducible rfl)
                  simp only [Act.put, List.getElem_toArray, List.getElem_cons_zero, List.getElem_cons_succ, List.setIfInBounds_toArray, List.set_cons_zero, List.set_cons_succ]
                  refine wpAnyH_take (i := 25) (v := ?zv4x25) rfl (by kernel_rfl) (by kernel_rfl) (by kernel_rfl) (fun _ _ _ h => h) (Or.inl ⟨by rfl, ?zy4x25⟩) (by assumption) ?zr4x25
                  case zy4x25 => (intro w hSw; (try dsimp only at hSw); (try simp only [List.getElem_toArray, List.getElem_cons_zero, List.getElem_cons_succ]); go_simp; first | done | with_reducible rfl)
                  simp only [Act.put, List.getElem_toArray, List.getElem_cons_zero, List.getElem_cons_succ, List.setIfInBounds_toArray, List.set_cons_zero, List.set_cons_succ]
                  refine wpAnyH_ready (rs := [26]) (by kernel_rfl) (by simp) ?_
                  refine AllReadyH.cons rfl (fun K hK => ?_) AllReadyH.nil
                  try simp only [List.getElem_toArray, List.getElem_cons_zero, List.getElem_cons_succ]
                  go_simp
                  refine (C3.out _ (bel.trans ((up.out _ B1).mono bel.size))).mono ?_
                  rintro e W2 ⟨rfl, b2⟩
                  have B2 := B1.trans (b2.mono B1.size)
                  have hS2 := cs.out _ B2
                  refine hK.out _ _ hS2 (fun hHeld2 => ?_)
                  clear hK K
                  try simp only [Act.put, List.getElem_toArray, List.getElem_cons_zero, List.getElem_cons_succ, List.setIfInBounds_toArray, List.set_cons_zero, List.set_cons_succ]
                  refine wpAnyH_take (i := 27) (v := ?zv4x27) rfl (by kernel_rfl) (by kernel_rfl) (by kernel_rfl) (fun _ _ _ h => h) (Or.inl ⟨by rfl, ?zy4x27⟩) (by assumption) ?zr4x27
                  case zy4x27 => (intro w hSw; (try dsimp only at hSw); (try simp only [List.getElem_toArray, List.getElem_cons_zero, List.getElem_cons_succ]); go_simp; first | done | with_reducible rfl)
                  simp only [Act.put, List.getElem_toArray, List.getElem_cons_zero, List.getElem_cons_succ, List.setIfInBounds_toArray, List.set_cons_zero, List.set_cons_succ]
                  refine wpAnyH_take (i := 28) (v := ?zv4x28) rfl (by kernel_rfl) (by kernel_rfl) (by kernel_rfl) (fun _ _ _ h => h) (Or.inl ⟨by rfl, ?zy4x28⟩) (by assumption) ?zr4x28
                  case zy4x28 => (intro w hSw; (try dsimp only at hSw); (try simp only [List.getElem_toArray, List.getElem_cons_zero, List.getElem_cons_succ]); go_simp; first | done | with_reducible rfl)
                  simp only [Act.put, List.getElem_toArray, List.getElem_cons_zero, List.getElem_cons_succ, List.setIfInBounds_toArray, List.set_cons_zero, List.set_cons_succ]
                  refine wpAnyH_take (i := 29) (v := ?zv4x29) rfl (by kernel_rfl) (by kernel_rfl) (by kernel_rfl) (fun _ _ _ h => h) (Or.inl ⟨by rfl, ?zy4x29⟩) (by assumption) ?zr4x29
                  case zy4x29 => (intro w hSw; (try dsimp only at hSw); (try simp only [List.getElem_toArray, List.getElem_cons_zero, List.getElem_cons_succ]); go_simp; first | done | with_reducible rfl)
                  simp only [Act.put, List.getElem_toArray, List.getElem_cons_zero, List.getElem_cons_succ, List.setIfInBounds_toArray, List.set_cons_zero, List.set_cons_succ]
                  refine wpAnyH_take (i := 30) (v := ?zv4x30) rfl (by kernel_rfl) (by kernel_rfl) (by kernel_rfl) (fun _ _ _ h => h) (Or.inl ⟨by rfl, ?zy4x30⟩) (by assumption) ?zr4x30
                  case zy4x30 => (intro w hSw; (try dsimp only at hSw); (try simp only [List.getElem_toArray, List.getElem_cons_zero, List.getElem_cons_succ]); go_simp; first | done | with_reducible rfl)
                  simp only [Act.put, List.getElem_toArray, List.getElem_cons_zero, List.getElem_cons_succ, List.setIfInBounds_toArray, List.set_cons_zero, List.set_cons_succ]
                  refine wpAnyH_take (i := 31) (v := ?zv4x31) rfl (by kernel_rfl) (by kernel_rfl) (by kernel_rfl) (fun _ _ _ h => h) (Or.inl ⟨by rfl, ?zy4x31⟩) (by assumption) ?zr4x31
                  case zy4x31 => (intro w hSw; (try dsimp only at hSw); (try simp only [List.getElem_toArray, List.getElem_cons_zero, List.getElem_cons_succ]); go_simp; first | done | with_reducible rfl)
                  simp only [Act.put, List.getElem_toArray, List.getElem_cons_zero, List.getElem_cons_succ, List.setIfInBounds_toArray, List.set_cons_zero, List.set_cons_succ]
                  refine wpAnyH_take (i := 32) (v := ?zv4x32) rfl (by kernel_rfl) (by kernel_rfl) (by kernel_rfl) (fun _ _ _ h => h) (Or.inl ⟨by rfl, ?zy4x32⟩) (by assumption) ?zr4x32
                  case zy4x32 => (intro w hSw; (try dsimp only at hSw); (try simp only [List.getElem_toArray, List.getElem_cons_zero, List.getElem_cons_succ]); go_simp; first | done | with_reducible rfl)
                  simp only [Act.put, List.getElem_toArray, List.getElem_cons_zero, List.getElem_cons_succ, List.setIfInBounds_toArray, List.set_cons_zero, List.set_cons_succ]
                  refine wpAnyH_take (i := 33) (v := ?zv4x33) rfl (by kernel_rfl) (by kernel_rfl) (by kernel_rfl) (fun _ _ _ h => h) (Or.inl ⟨by rfl, ?zy4x33⟩) (by assumption) ?zr4x33
                  case zy4x33 => (intro w hSw; (try dsimp only at hSw); (try simp only [List.getElem_toArray, List.getElem_cons_zero, List.getElem_cons_succ]); go_simp; first | done | with_reducible rfl)
                  simp only [Act.put, List.getElem_toArray, List.getElem_cons_zero, List.getElem_cons_succ, List.setIfInBounds_toArray, List.set_cons_zero, List.set_cons_succ]
                  refine wpAnyH_take (i := 34) (v := ?zv4x34) rfl (by kernel_rfl) (by kernel_rfl) (by kernel_rfl) (fun _ _ _ h => h) (Or.inl ⟨by rfl, ?zy4x34⟩) (by assumption) ?zr4x34
                  case zy4x34 => (intro w hSw; (try dsimp only at hSw); (try simp only [List.getElem_toArray, List.getElem_cons_zero, List.getElem_cons_succ]); go_simp; first | done | with_reducible rfl)
                  simp only [Act.put, List.getElem_toArray, List.getElem_cons_zero, List.getElem_cons_succ, List.setIfInBounds_toArray, List.set_cons_zero, List.set_cons_succ]
                  refine wpAnyH_take (i := 35) (v := ?zv4x35) rfl (by kernel_rfl) (by kernel_rfl) (by kernel_rfl) (fun _ _ _ h => h) (Or.inl ⟨by rfl, ?zy4x35⟩) (by assumption) ?zr4x35
                  case zy4x35 => (intro w hSw; (try dsimp only at hSw); (try simp only [List.getElem_toArray, List.getElem_cons_zero, List.getElem_cons_succ]); go_simp; first | done | with_reducible rfl)
                  simp only [Act.put, List.getElem_toArray, List.getElem_cons_zero, List.getElem_cons_succ, List.setIfInBounds_toArray, List.set_cons_zero, List.set_cons_succ]
                  refine wpAnyH_take (i := 36) (v := ?zv4x36) rfl (by kernel_rfl) (by kernel_rfl) (by kernel_rfl) (fun _ _ _ h => h) (Or.inl ⟨by rfl, ?zy4x36⟩) (by assumption) ?zr4x36
                  case zy4x36 => (intro w hSw; (try dsimp only at hSw); (try simp only [List.getElem_toArray, List.getElem_cons_zero, List.getElem_cons_succ]); go_simp; first | done | with_reducible rfl)
                  simp only [Act.put, List.getElem_toArray, List.getElem_cons_zero, List.getElem_cons_succ, List.setIfInBounds_toArray, List.set_cons_zero, List.set_cons_succ]
                  refine wpAnyH_take (i := 37) (v := ?zv4x37) rfl (by kernel_rfl) (by kernel_rfl) (by kernel_rfl) (fun _ _ _ h => h) (Or.inl ⟨by rfl, ?zy4x37⟩) (by assumption) ?zr4x37
                  case zy4x37 => (intro w hSw; (try dsimp only at hSw); (try simp only [List.getElem_toArray, List.getElem_cons_zero, List.getElem_cons_succ]); go_simp; first | done | with_reducible rfl)
                  simp only [Act.put, List.getElem_toArray, List.getElem_cons_zero, List.getElem_cons_succ, List.setIfInBounds_toArray, List.set_cons_zero, List.set_cons_succ]
                  refine wpAnyH_take (i := 38) (v := ?zv4x38) rfl (by kernel_rfl) (by kernel_rfl) (by kernel_rfl) (fun _ _ _ h => h) (Or.inl ⟨by rfl, ?zy4x38⟩) (by assumption) ?zr4x38
                  case zy4x38 => (intro w hSw; (try dsimp only at hSw); (try simp only [List.getElem_toArray, List.getElem_cons_zero, List.getElem_cons_succ]); go_simp; first | done | with_reducible rfl)
                  simp only [Act.put, List.getElem_toArray, List.getElem_cons_zero, List.getElem_cons_succ, List.setIfInBounds_toArray, List.set_cons_zero, List.set_cons_succ]
                  refine wpAnyH_take (i := 39) (v := ?zv4x39) rfl (by kernel_rfl) (by kernel_rfl) (by kernel_rfl) (fun _ _ _ h => h) (Or.inl ⟨by rfl, ?zy4x39⟩) (by assumption) ?zr4x39
                  case zy4x39 => (intro w hSw; (try dsimp only at hSw); (try simp only [List.getElem_toArray, List.getElem_cons_zero, List.getElem_cons_succ]); go_simp; first | done | with_reducible rfl)
                  simp only [Act.put, List.getElem_toArray, List.getElem_cons_zero, List.getElem_cons_succ, List.setIfInBounds_toArray, List.set_cons_zero, List.set_cons_succ]
                  refine wpAnyH_done (by kernel_rfl) ?_ _
                  refine NoPanic.normal ?_
                  obtain ⟨⟨_, _, _, _⟩, ⟨_, _, _, _⟩⟩ := cs.out _ B2
                  obtain ⟨_, _, _, _⟩ := kp.out _ (bel0.trans ((up.out _ B2).mono sz))
                  cases he : (y.t.toList == [42]) with
                  | true =>
                    have HP3 : Hid (elB l.length t 0 y = (decide (l.length ≤ 1) && !(t.toList == []) && ((0 : Int) == 0))) := by show _ = _; rw [HP.out, if_pos he]
                    by_cases hl1 : l.length ≤ 1
                    · have hl1' : ¬ (1 : Int) < (l.length : Int) := by omega
                      cases h0 : (t.toList == []) with
                      | true =>
                        have HR : Hid (l.all (elB l.length t 0) = false) := HB.out (by rw [HP3.out, h0]; simp)
                        clear HB HG HP
                        go_wp2
                        go_ret
                        exact ⟨ret_b (by first | rw [Bool.true_and, HR.out] | rw [HR.out]), (bel.trans ((up.out _ B2).mono bel.size))⟩
                      | false =>
                        have HR : Hid (∀ z ∈ l.take (k + 1), elB l.length t 0 z = true) := HG.out (by rw [HP3.out, h0]; simp [hl1])
                        clear HB HG HP HP3
                        go_wp2
                        go_roundg (gk - 1)
                        case rel => exact ⟨k + 1, by simp, by have := hk.out; show _ = _; omega, bel0.trans ((up.out _ B2).mono sz), HR⟩
                        case measure => have := hk.out; omega
                    · have hl1' : (1 : Int) < (l.length : Int) := by omega
                      have HR : Hid (l.all (elB l.length t 0) = false) := HB.out (by rw [HP3.out]; simp [hl1])
                      clear HB HG HP
                      go_wp2
                      go_ret
                      exact ⟨ret_b (by first | rw [Bool.true_and, HR.out] | rw [HR.out]), (bel.trans ((up.out _ B2).mono bel.size))⟩
                  | false =>
                    have HP3 : Hid (elB l.length t 0 y = (propT false y.t.data.toList && (!(t.toList == []) || idT false y.t))) := by show _ = _; rw [HP.out, if_neg (by rw [he]; decide)]
                    generalize propT false y.t.data.toList = pt at *
                    generalize idT false y.t = it at *
                    cases pt with
                    | false =>
                      have HR : Hid (l.all (elB l.length t 0) = false) := HB.out HP3.out
                      clear HB HG HP
                      go_wp2_with (go_at_call 48; refine (C1.out _ (bel.trans ((up.out _ B2).mono bel.size))).mono ?_; rintro e W9 ⟨rfl, b9⟩; have B9 := B2.trans (b9.mono B2.size); obtain ⟨⟨_, _, _, _⟩, ⟨_, _, _, _⟩⟩ := cs.out _ B9; obtain ⟨_, _, _, _⟩ := kp.out _ (bel0.trans ((up.out _ B9).mono sz)))
                      go_ret
                      exact ⟨ret_b (by first | rw [Bool.true_and, HR.out] | rw [HR.out]), (bel.trans ((up.out _ B9).mono bel.size))⟩
                    | true =>
                      cases h0 : (t.toList == []) with
                      | false =>
                        have HR : Hid (∀ z ∈ l.take (k + 1), elB l.length t 0 z = true) := HG.out (by rw [HP3.out, h0]; rfl)
                        clear HB HG HP HP3
                        go_wp2_with (go_at_call 48; refine (C1.out _ (bel.trans ((up.out _ B2).mono bel.size))).mono ?_; rintro e W9 ⟨rfl, b9⟩; have B9 := B2.trans (b9.mono B2.size); obtain ⟨⟨_, _, _, _⟩, ⟨_, _, _, _⟩⟩ := cs.out _ B9; obtain ⟨_, _, _, _⟩ := kp.out _ (bel0.trans ((up.out _ B9).mono sz)))
                        go_roundg (gk - 1)
                        case rel => exact ⟨k + 1, by simp, by have := hk.out; show _ = _; omega, bel0.trans ((up.out _ B9).mono sz), HR⟩
                        case measure => have := hk.out; omega
                      | true =>
                        cases it with
                        | false =>
                          have HR : Hid (l.all (elB l.length t 0) = false) := HB.out (by rw [HP3.out, h0]; rfl)
                          clear HB HG HP
                          go_wp2_with (first
                            | (go_at_call 48; refine (C1.out _ (bel.trans ((up.out _ B2).mono bel.size))).mono ?_; rintro e W9 ⟨rfl, b9⟩; have B9 := B2.trans (b9.mono B2.size); obtain ⟨⟨_, _, _, _⟩, ⟨_, _, _, _⟩⟩ := cs.out _ B9; obtain ⟨_, _, _, _⟩ := kp.out _ (bel0.trans ((up.out _ B9).mono sz)))
                            | (go_at_call 46; refine (C4.out _ (bel.trans ((up.out _ B9).mono bel.size))).mono ?_; rintro e W10 ⟨rfl, b10⟩; have B10 := B9.trans (b10.mono B9.size); obtain ⟨⟨_, _, _, _⟩, ⟨_, _, _, _⟩⟩ := cs.out _ B10; obtain ⟨_, _, _, _⟩ := kp.out _ (bel0.trans ((up.out _ B10).mono sz))))
                          go_ret
                          exact ⟨ret_b (by first | rw [Bool.true_and, HR.out] | rw [HR.out]), (bel.trans ((up.out _ B10).mono bel.size))⟩
                        | true =>
                          have HR : Hid (∀ z ∈ l.take (k + 1), elB l.length t 0 z = true) := HG.out (by rw [HP3.out, h0]; rfl)
                          clear HB HG HP HP3
                          go_wp2_with (first
                            | (go_at_call 48; refine (C1.out _ (bel.trans ((up.out _ B2).mono bel.size))).mono ?_; rintro e W9 ⟨rfl, b9⟩; have B9 := B2.trans (b9.mono B2.size); obtain ⟨⟨_, _, _, _⟩, ⟨_, _, _, _⟩⟩ := cs.out _ B9; obtain ⟨_, _, _, _⟩ := kp.out _ (bel0.trans ((up.out _ B9).mono sz)))
                            | (go_at_call 46; refine (C4.out _ (bel.trans ((up.out _ B9).mono bel.size))).mono ?_; rintro e W10 ⟨rfl, b10⟩; have B10 := B9.trans (b10.mono B9.size); obtain ⟨⟨_, _, _, _⟩, ⟨_, _, _, _⟩⟩ := cs.out _ B10; obtain ⟨_, _, _, _⟩ := kp.out _ (bel0.trans ((up.out _ B10).mono sz))))
                          go_roundg (gk - 1)
                          case rel => exact ⟨k + 1, by simp, by have := hk.out; show _ = _; omega, bel0.trans ((up.out _ B10).mono sz), HR⟩
                          case measure => have := hk.out; omega
          · have h1' : ((y.ks.length : Int) == 1) = false := by simp; omega
            have HR : Hid (l.all (elB l.length t 0) = false) := HB.out (by rw [HP.out, h1']; simp)
            clear HB HG HP
            go_wp2_with fail
            obtain ⟨WP, hWP⟩ : ∃ W, wr.alloc (Obj.cells #[Value.int IntKind.i64 65, Value.string y.t, Value.int IntKind.i64 0, Value.slice ak y.ks.length ck] 24) = W := ⟨_, rfl⟩
            have cP : Below wr.heap.size wr WP := by rw [← hWP]; exact bel_a _ _
            have mP : WP.heap[wr.heap.size]? = some (.cells #[Value.int IntKind.i64 65, Value.string y.t, Value.int IntKind.i64 0, Value.slice ak y.ks.length ck] 24 (0, 0)) := by rw [← hWP]; exact heap_alloc_new _ _
            rw [hWP]
            clear hWP
            have lP : wr.heap.size < WP.heap.size := (Array.getElem?_eq_some_iff.1 mP).1
            have up : Hid (∀ W', Below WP.heap.size WP W' → Below wr.heap.size wr W') := fun W' b => cP.trans (b.mono cP.size)
            have cs : Hid (∀ W', Below WP.heap.size WP W' → W'.cell? ⟨wr.heap.size, 0, none⟩ = some (.int .i64 65) ∧ W'.cell? ⟨wr.heap.size, 1, none⟩ = some (.string y.t) ∧ W'.cell? ⟨wr.heap.size, 2, none⟩ = some (.int .i64 0) ∧ W'.cell? ⟨wr.heap.size, 3, none⟩ = some (.slice ak y.ks.length ck)) := fun W' b => (box4 ((b.block _ lP).trans mP)).1
            clear mP
            have B0 : Below WP.heap.size WP WP.drew := (Below.refl _ _).drew
            have d3 : ((y.ks.length : Int) != 1) = true := by simp; omega
            obtain ⟨_, _, _, _⟩ := cs.out _ (Below.refl _ _)
            go_region
            obtain ⟨_, _, _, _⟩ := cs.out _ B0
            obtain ⟨_, _, _, _⟩ := kp.out _ (bel0.trans ((up.out _ B0).mono sz))
            go_wp2
            go_ret
            exact ⟨ret_b (by first | rw [Bool.true_and, HR.out] | rw [HR.out]), (bel.trans ((up.out _ B0).mono bel.size))⟩
        · have HR : Hid (l.all (elB l.length t 0) = false) := HB.out (by rw [HP.out]; simp [hn])
          clear HB HG HP
          go_wp2_with fail
          obtain ⟨WP, hWP⟩ : ∃ W, wr.alloc (Obj.cells #[Value.int IntKind.i64 65, Value.string y.t, Value.int IntKind.i64 y.n, Value.slice ak y.ks.length ck] 24) = W := ⟨_, rfl⟩
          have cP : Below wr.heap.size wr WP := by rw [← hWP]; exact bel_a _ _
          have mP : WP.heap[wr.heap.size]? = some (.cells #[Value.int IntKind.i64 65, Value.string y.t, Value.int IntKind.i64 y.n, Value.slice ak y.ks.length ck] 24 (0, 0)) := by rw [← hWP]; exact heap_alloc_new _ _
          rw [hWP]
          clear hWP
          have lP : wr.heap.size < WP.heap.size := (Array.getElem?_eq_some_iff.1 mP).1
          have up : Hid (∀ W', Below WP.heap.size WP W' → Below wr.heap.size wr W') := fun W' b => cP.trans (b.mono cP.size)
          have cs : Hid (∀ W', Below WP.heap.size WP W' → W'.cell? ⟨wr.heap.size, 0, none⟩ = some (.int .i64 65) ∧ W'.cell? ⟨wr.heap.size, 1, none⟩ = some (.string y.t) ∧ W'.cell? ⟨wr.heap.size, 2, none⟩ = some (.int .i64 y.n) ∧ W'.cell? ⟨wr.heap.size, 3, none⟩ = some (.slice ak y.ks.length ck)) := fun W' b => (box4 ((b.block _ lP).trans mP)).1
          clear mP
          have B0 : Below WP.heap.size WP WP.drew := (Below.refl _ _).drew
          have d2 : (y.n != 0) = true := by simpa using hn
          obtain ⟨_, _, _, _⟩ := cs.out _ (Below.refl _ _)
          go_region
          obtain ⟨_, _, _, _⟩ := cs.out _ B0
          obtain ⟨_, _, _, _⟩ := kp.out _ (bel0.trans ((up.out _ B0).mono sz))
          go_wp2
          go_ret
          exact ⟨ret_b (by first | rw [Bool.true_and, HR.out] | rw [HR.out]), (bel.trans ((up.out _ B0).mono bel.size))⟩
      · have HR : Hid (l.all (elB l.length t 0) = false) := HB.out (by rw [HP.out]; simp [h10])
        clear HB HG HP
        go_wp2_with fail
        obtain ⟨WP, hWP⟩ : ∃ W, wr.alloc (Obj.cells #[Value.int IntKind.i64 y.k, Value.string y.t, Value.int IntKind.i64 y.n, Value.slice ak y.ks.length ck] 24) = W := ⟨_, rfl⟩
        have cP : Below wr.heap.size wr WP := by rw [← hWP]; exact bel_a _ _
        have mP : WP.heap[wr.heap.size]? = some (.cells #[Value.int IntKind.i64 y.k, Value.string y.t, Value.int IntKind.i64 y.n, Value.slice ak y.ks.length ck] 24 (0, 0)) := by rw [← hWP]; exact heap_alloc_new _ _
        rw [hWP]
        clear hWP
        have lP : wr.heap.size < WP.heap.size := (Array.getElem?_eq_some_iff.1 mP).1
        have up : Hid (∀ W', Below WP.heap.size WP W' → Below wr.heap.size wr W') := fun W' b => cP.trans (b.mono cP.size)
        have cs : Hid (∀ W', Below WP.heap.size WP W' → W'.cell? ⟨wr.heap.size, 0, none⟩ = some (.int .i64 y.k) ∧ W'.cell? ⟨wr.heap.size, 1, none⟩ = some (.string y.t) ∧ W'.cell? ⟨wr.heap.size, 2, none⟩ = some (.int .i64 y.n) ∧ W'.cell? ⟨wr.heap.size, 3, none⟩ = some (.slice ak y.ks.length ck)) := fun W' b => (box4 ((b.block _ lP).trans mP)).1
        clear mP
        have B0 : Below WP.heap.size WP WP.drew := (Below.refl _ _).drew
        have d1 : (y.k != 65) = true := by simpa using h10
        obtain ⟨_, _, _, _⟩ := cs.out _ (Below.refl _ _)
        go_region
        obtain ⟨_, _, _, _⟩ := cs.out _ B0
        obtain ⟨_, _, _, _⟩ := kp.out _ (bel0.trans ((up.out _ B0).mono sz))
        go_wp2
        go_ret
        exact ⟨ret_b (by first | rw [Bool.true_and, HR.out] | rw [HR.out]), (bel.trans ((up.out _ B0).mono bel.size))⟩
    · have e : l.take k = l := List.take_of_length_le (by omega)
      have HR : Hid (l.all (elB l.length t 0) = true) := List.all_eq_true.2 (by have := HT.out; rw [e] at this; exact this)
      clear HT e hX hX2 qx rx
      go_wp2
      go_ret
      exact ⟨ret_b (by rw [HR.out]; first | done | simp), bel⟩
end Go.Proofs.YtggahoefbcnaiaaDoor
