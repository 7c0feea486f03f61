/- Own text. Which trees are exports of types from elsewhere: the document's answer. -/
import Derived.Test.YtggahoefbcnaiaaDoorG28
namespace Go.Proofs.YtggahoefbcnaiaaDoor
open Go.RowKit
set_option linter.unusedVariables false
set_option linter.unusedSimpArgs false

set_option maxRecDepth 100000 in
set_option maxHeartbeats 16000000 in
theorem from_1 (t : ByteArray) (l : List Nd) (hX : ∀ z ∈ l, z.t.size ≤ 4194304) (hX2 : ∀ z ∈ l, ∀ u ∈ z.ks, u.t.size ≤ 4194304) (ht : t.size ≤ 4194304) (h0 : 0 < l.length) (hl : l.length ≤ 4194304) (a : Option Addr) (c : Nat) (w : World) (S : Nat → Prop) (hx : LAt w S (.slice a l.length c) l) :
    Calls Tryd.prog 56 #[nv 64 t 1 a l.length c] w fun e w' => e = .returned (.bool (validL t.data.toList && l.all (elB l.length t 1))) ∧ Below w.heap.size w w' := by
  have CP := fun W => rvalid_any t W (by omega)
  have h0' : ((l.length : Int) == 0) = false := lenF l 0 (by omega)
  generalize validL t.data.toList = p at *
  obtain ⟨ax, cx, bx, ox, fx, e, px, qx, rx⟩ := hx.op
  obtain ⟨rfl, rfl⟩ : a = ax ∧ c = cx := by injection e with e1 e2 e3; exact ⟨e1, e3⟩
  clear e
  obtain ⟨rfl, hSx, hbx⟩ := px h0
  clear px h0
  have X0 : (w.alloc (Obj.cells #[Value.int IntKind.i64 64, Value.string t, Value.int IntKind.i64 1, Value.slice (some ⟨bx, ox, none⟩) l.length c] 24)).heap[w.heap.size]? = some (.cells #[Value.int IntKind.i64 64, Value.string t, Value.int IntKind.i64 1, Value.slice (some ⟨bx, ox, none⟩) l.length c] 24 (0, 0)) := hnew _ rfl
  have kp : Hid (∀ W', Below (w.heap.size + 1) (w.alloc (Obj.cells #[Value.int IntKind.i64 64, Value.string t, Value.int IntKind.i64 1, Value.slice (some ⟨bx, ox, none⟩) l.length c] 24)) W' → (W'.cell? ⟨w.heap.size, 0, none⟩ = some (.int .i64 64) ∧ W'.cell? ⟨w.heap.size, 1, none⟩ = some (.string t) ∧ W'.cell? ⟨w.heap.size, 2, none⟩ = some (.int .i64 1) ∧ W'.cell? ⟨w.heap.size, 3, none⟩ = some (.slice (some ⟨bx, ox, none⟩) l.length c))) := fun W' b => (box4 ((b.block _ (by omega)).trans X0)).1
  have kb : Hid (∀ W', Below (w.heap.size + 1) (w.alloc (Obj.cells #[Value.int IntKind.i64 64, Value.string t, Value.int IntKind.i64 1, Value.slice (some ⟨bx, ox, none⟩) l.length c] 24)) W' → Below w.heap.size w W' ∧ w.heap.size + 1 ≤ W'.heap.size) := fun W' b => ⟨(bel_a w _).trans (b.mono (by omega)), by have := b.size; simpa using this⟩
  have kr : Hid (Below (w.heap.size + 1) (w.alloc (Obj.cells #[Value.int IntKind.i64 64, Value.string t, Value.int IntKind.i64 1, Value.slice (some ⟨bx, ox, none⟩) l.length c] 24)) (w.alloc (Obj.cells #[Value.int IntKind.i64 64, Value.string t, Value.int IntKind.i64 1, Value.slice (some ⟨bx, ox, none⟩) l.length c] 24))) := Below.refl _ _
  clear X0
  go_enter Tryd.func56, Tryd.ntmps56
  cases p with
  | false =>
    go_wp2_with (go_at_call 45; refine (CP _).mono ?_; rintro e W1 ⟨rfl, b1⟩)
    go_ret
    exact ⟨ret_b (by simp), (bel_a w _).trans (b1.mono (by simp))⟩
  | true =>
  go_wp2_with (go_at_call 45; refine (CP _).mono ?_; rintro e W1 ⟨rfl, b1⟩; have k1 := kr.out.trans (b1.mono (by simp)); obtain ⟨_, _, _, _⟩ := kp.out _ k1)
  clear b1
  generalize w.alloc (Obj.cells #[Value.int IntKind.i64 64, Value.string t, Value.int IntKind.i64 1, Value.slice (some ⟨bx, ox, none⟩) l.length c] 24) = W0 at *
  go_loopg [3] l.length (fun gk v3 wr => ∃ (k : Nat), v3 = .int .i64 (k : Nat) ∧ Hid (gk + k = l.length) ∧ Below (w.heap.size + 1) W0 wr ∧ Hid (∀ y ∈ l.take k, elB l.length t 1 y = true))
  case atStart => exact ⟨0, rfl, by simp [Hid], k1, by simp [Hid]⟩
  case round =>
    obtain ⟨k, rfl, hk, bel0, HT⟩ := hrel
    obtain ⟨bel, sz⟩ := kb.out _ bel0
    have hkk : k ≤ l.length := by have := hk.out; omega
    obtain ⟨n1, n2, n3, n4⟩ := kp.out _ bel0
    by_cases hkl : k < l.length
    · have hm := List.getElem_mem hkl
      have HS : Hid (l.take (k + 1) = l.take k ++ [l[k]]) := List.take_succ_eq_append_getElem hkl
      have hX1 := hX _ hm
      have hX3 := hX2 _ hm
      have HM : Hid (l[k] ∈ l) := hm
      have hr := rx k hkl
      have hq := qx k hkl
      clear hm
      generalize l[k] = y at *
      generalize fx k = fk at *
      obtain ⟨ak, ck, rfl⟩ := hr.sl
      have C1 := q_prop w y.t hX1
      have C4 := q_id w y.t hX1
      have HB : Hid (elB l.length t 1 y = false → l.all (elB l.length t 1) = false) := fun h => List.all_eq_false.2 ⟨y, HM.out, by rw [h]; decide⟩
      have HG : Hid (elB l.length t 1 y = true → ∀ z ∈ l.take (k + 1), elB l.length t 1 z = true) := fun h z hz => by
        rw [HS.out] at hz
        rcases List.mem_append.1 hz with hz | hz
        · exact HT.out z hz
        · obtain rfl : z = y := by simpa using hz
          exact h
      have HP : Hid (elB l.length t 1 y = (((y.k == 65) && (y.n == 0) && ((y.ks.length : Int) == 1) && y.ks.all (fun z => noB z || (naB true z && !(z.t.toList == y.t.toList)))) && (if (y.t.toList == [42]) = true then decide (l.length ≤ 1) && !(t.toList == []) && ((1 : Int) == 0) else propT false y.t.data.toList && (!(t.toList == []) || idT false y.t)))) := rfl
      obtain ⟨u1, u2, u3, u4⟩ := (kid_at hq hr hbx bel).1
      clear hX hX2 qx rx HM HS HT hq
      by_cases h10 : y.k = 65
      · rw [h10] at u1 HP
        by_cases hn : y.n = 0
        · rw [hn] at u3 HP
          by_cases h1 : y.ks.length = 1
          · obtain ⟨z, hz⟩ := List.length_eq_one_iff.1 h1
            have hCz := hX3 z (by rw [hz]; simp)
            rw [hz] at hr HP
            obtain ⟨bz, oz, cz, az, rfl, hbz, hgz, hcz⟩ := one_at hr
            have HZ : Hid (∀ W, Below w.heap.size w W → W.cell? ⟨bz, oz, none⟩ = some (.int .i64 z.k) ∧ W.cell? ⟨bz, oz + 1, none⟩ = some (.string z.t) ∧ W.cell? ⟨bz, oz + 2, none⟩ = some (.int .i64 z.n) ∧ W.cell? ⟨bz, oz + 3, none⟩ = some (.slice az z.ks.length cz)) := hcz
            have C2 : Hid (QC 54 w (nv z.k z.t z.n az z.ks.length cz) (noB z)) := q_no
            have C3 : Hid (QB 57 w (nv z.k z.t z.n az z.ks.length cz) true (naB true z)) := q_na true hCz
            clear hcz hCz hX3 hgz hr
            rw [h1] at u4
            have HP2 : Hid (elB l.length t 1 y = ((noB z || (naB true z && !(z.t.toList == y.t.toList))) && (if (y.t.toList == [42]) = true then decide (l.length ≤ 1) && !(t.toList == []) && ((1 : Int) == 0) else propT false y.t.data.toList && (!(t.toList == []) || idT false y.t)))) := by show _ = _; rw [HP.out]; simp
            clear HP hz
            generalize noB z = nz at *
            generalize naB true z = az2 at *
            cases nz with
            | true =>
              have HP : Hid (elB l.length t 1 y = (if (y.t.toList == [42]) = true then decide (l.length ≤ 1) && !(t.toList == []) && ((1 : Int) == 0) else propT false y.t.data.toList && (!(t.toList == []) || idT false y.t))) := HP2.out
              clear HP2
              go_wp2_with fail
              obtain ⟨WP, hWP⟩ : ∃ W, wr.alloc (Obj.cells #[Value.int IntKind.i64 65, Value.string y.t, Value.int IntKind.i64 0, Value.slice (some ⟨bz, oz, none⟩) 1 ck] 24) = W := ⟨_, rfl⟩
              have cP : Below wr.heap.size wr WP := by rw [← hWP]; exact bel_a _ _
              have mP : WP.heap[wr.heap.size]? = some (.cells #[Value.int IntKind.i64 65, Value.string y.t, Value.int IntKind.i64 0, Value.slice (some ⟨bz, oz, none⟩) 1 ck] 24 (0, 0)) := by rw [← hWP]; exact heap_alloc_new _ _
              rw [hWP]
              clear hWP
              have lP : wr.heap.size < WP.heap.size := (Array.getElem?_eq_some_iff.1 mP).1
              have up : Hid (∀ W', Below WP.heap.size WP W' → Below wr.heap.size wr W') := fun W' b => cP.trans (b.mono cP.size)
              have cs : Hid (∀ W', Below WP.heap.size WP W' → (W'.cell? ⟨wr.heap.size, 0, none⟩ = some (.int .i64 65) ∧ W'.cell? ⟨wr.heap.size, 1, none⟩ = some (.string y.t) ∧ W'.cell? ⟨wr.heap.size, 2, none⟩ = some (.int .i64 0) ∧ W'.cell? ⟨wr.heap.size, 3, none⟩ = some (.slice (some ⟨bz, oz, none⟩) 1 ck)) ∧ (W'.cell? ⟨bz, oz, none⟩ = some (.int .i64 z.k) ∧ W'.cell? ⟨bz, oz + 1, none⟩ = some (.string z.t) ∧ W'.cell? ⟨bz, oz + 2, none⟩ = some (.int .i64 z.n) ∧ W'.cell? ⟨bz, oz + 3, none⟩ = some (.slice az z.ks.length cz))) := fun W' b => ⟨(box4 ((b.block _ lP).trans mP)).1, HZ.out _ (bel.trans ((up.out _ b).mono bel.size))⟩
              clear mP
              have B0 : Below WP.heap.size WP WP.drew := (Below.refl _ _).drew
              have hS0 := cs.out _ B0
              refine wp_region_noPanic ?_
              refine wp_region_held_drew (S := fun W' => (W'.cell? ⟨wr.heap.size, 0, none⟩ = some (.int .i64 65) ∧ W'.cell? ⟨wr.heap.size, 1, none⟩ = some (.string y.t) ∧ W'.cell? ⟨wr.heap.size, 2, none⟩ = some (.int .i64 0) ∧ W'.cell? ⟨wr.heap.size, 3, none⟩ = some (.slice (some ⟨bz, oz, none⟩) 1 ck)) ∧ (W'.cell? ⟨bz, oz, none⟩ = some (.int .i64 z.k) ∧ W'.cell? ⟨bz, oz + 1, none⟩ = some (.string z.t) ∧ W'.cell? ⟨bz, oz + 2, none⟩ = some (.int .i64 z.n) ∧ W'.cell? ⟨bz, oz + 3, none⟩ = some (.slice az z.ks.length cz))) (by kernel_rfl) hS0 (fun hHeld => ?_)
              refine wpAnyH_take (i := 0) (v := ?zv5x0) rfl (by kernel_rfl) (by kernel_rfl) (by kernel_rfl) (fun _ _ _ h => h) (Or.inl ⟨by rfl, ?zy5x0⟩) (by assumption) ?zr5x0
              case zy5x0 => (intro w hSw; (try dsimp only at hSw); (try simp only [List.getElem_toArray, List.getElem_cons_zero, List.getElem_cons_succ]); go_simp; first | done | with_reducible rfl)
              simp only [Act.put, List.getElem_toArray, List.getElem_cons_zero, List.getElem_cons_succ, List.setIfInBounds_toArray, List.set_cons_zero, List.set_cons_succ]
              refine wpAnyH_take (i := 1) (v := ?zv5x1) rfl (by kernel_rfl) (by kernel_rfl) (by kernel_rfl) (fun _ _ _ h => h) (Or.inl ⟨by rfl, ?zy5x1⟩) (by assumption) ?zr5x1
              case zy5x1 => (intro w hSw; (try dsimp only at hSw); (try simp only [List.getElem_toArray, List.getElem_cons_zero, List.getElem_cons_succ]); go_simp; first | done | with_reducible rfl)
              simp only [Act.put, List.getElem_toArray, List.getElem_cons_zero, List.getElem_cons_succ, List.setIfInBounds_toArray, List.set_cons_zero, List.set_cons_succ]
              refine wpAnyH_take (i := 2) (v := ?zv5x2) rfl (by kernel_rfl) (by kernel_rfl) (by kernel_rfl) (fun _ _ _ h => h) (Or.inl ⟨by rfl, ?zy5x2⟩) (by assumption) ?zr5x2
              case zy5x2 => (intro w hSw; (try dsimp only at hSw); (try simp only [List.getElem_toArray, List.getElem_cons_zero, List.getElem_cons_succ]); go_simp; first | done | with_reducible rfl)
              simp only [Act.put, List.getElem_toArray, List.getElem_cons_zero, List.getElem_cons_succ, List.setIfInBounds_toArray, List.set_cons_zero, List.set_cons_succ]
              refine wpAnyH_take (i := 3) (v := ?zv5x3) rfl (by kernel_rfl) (by kernel_rfl) (by kernel_rfl) (fun _ _ _ h => h) (Or.inl ⟨by rfl, ?zy5x3⟩) (by assumption) ?zr5x3
              case zy5x3 => (intro w hSw; (try dsimp only at hSw); (try simp only [List.getElem_toArray, List.getElem_cons_zero, List.getElem_cons_succ]); go_simp; first | done | with_reducible rfl)
              simp only [Act.put, List.getElem_toArray, List.getElem_cons_zero, List.getElem_cons_succ, List.setIfInBounds_toArray, List.set_cons_zero, List.set_cons_succ]
              refine wpAnyH_take (i := 4) (v := ?zv5x4) rfl (by kernel_rfl) (by kernel_rfl) (by kernel_rfl) (fun _ _ _ h => h) (Or.inl ⟨by rfl, ?zy5x4⟩) (by assumption) ?zr5x4
              case zy5x4 => (intro w hSw; (try dsimp only at hSw); (try simp only [List.getElem_toArray, List.getElem_cons_zero, List.getElem_cons_succ]); go_simp; first | done | with_reducible rfl)
              simp only [Act.put, List.getElem_toArray, List.getElem_cons_zero, List.getElem_cons_succ, List.setIfInBounds_toArray, List.set_cons_zero, List.set_cons_succ]
              refine wpAnyH_take (i := 5) (v := ?zv5x5) rfl (by kernel_rfl) (by kernel_rfl) (by kernel_rfl) (fun _ _ _ h => h) (Or.inl ⟨by rfl, ?zy5x5⟩) (by assumption) ?zr5x5
              case zy5x5 => (intro w hSw; (try dsimp only at hSw); (try simp only [List.getElem_toArray, List.getElem_cons_zero, List.getElem_cons_succ]); go_simp; first | done | with_reducible rfl)
              simp only [Act.put, List.getElem_toArray, List.getElem_cons_zero, List.getElem_cons_succ, List.setIfInBounds_toArray, List.set_cons_zero, List.set_cons_succ]
              refine wpAnyH_take (i := 6) (v := ?zv5x6) rfl (by kernel_rfl) (by kernel_rfl) (by kernel_rfl) (fun _ _ _ h => h) (Or.inl ⟨by rfl, ?zy5x6⟩) (by assumption) ?zr5x6
              case zy5x6 => (intro w hSw; (try dsimp only at hSw); (try simp only [List.getElem_toArray, List.getElem_cons_zero, List.getElem_cons_succ]); go_simp; first | done | with_reducible rfl)
              simp only [Act.put, List.getElem_toArray, List.getElem_cons_zero, List.getElem_cons_succ, List.setIfInBounds_toArray, List.set_cons_zero, List.set_cons_succ]
              refine wpAnyH_take (i := 7) (v := ?zv5x7) rfl (by kernel_rfl) (by kernel_rfl) (by kernel_rfl) (fun _ _ _ h => h) (Or.inl ⟨by rfl, ?zy5x7⟩) (by assumption) ?zr5x7
              case zy5x7 => (intro w hSw; (try dsimp only at hSw); (try simp only [List.getElem_toArray, List.getElem_cons_zero, List.getElem_cons_succ]); go_simp; first | done | with_reducible rfl)
              simp only [Act.put, List.getElem_toArray, List.getElem_cons_zero, List.getElem_cons_succ, List.setIfInBounds_toArray, List.set_cons_zero, List.set_cons_succ]
              refine wpAnyH_take (i := 8) (v := ?zv5x8) rfl (by kernel_rfl) (by kernel_rfl) (by kernel_rfl) (fun _ _ _ h => h) (Or.inl ⟨by rfl, ?zy5x8⟩) (by assumption) ?zr5x8
              case zy5x8 => (intro w hSw; (try dsimp only at hSw); (try simp only [List.getElem_toArray, List.getElem_cons_zero, List.getElem_cons_succ]); go_simp; first | done | with_reducible rfl)
              simp only [Act.put, List.getElem_toArray, List.getElem_cons_zero, List.getElem_cons_succ, List.setIfInBounds_toArray, List.set_cons_zero, List.set_cons_succ]
              refine wpAnyH_take (i := 9) (v := ?zv5x9) rfl (by kernel_rfl) (by kernel_rfl) (by kernel_rfl) (fun _ _ _ h => h) (Or.inl ⟨by rfl, ?zy5x9⟩) (by assumption) ?zr5x9
              case zy5x9 => (intro w hSw; (try dsimp only at hSw); (try simp only [List.getElem_toArray, List.getElem_cons_zero, List.getElem_cons_succ]); go_simp; first | done | with_reducible rfl)
              simp only [Act.put, List.getElem_toArray, List.getElem_cons_zero, List.getElem_cons_succ, List.setIfInBounds_toArray, List.set_cons_zero, List.set_cons_succ]
              refine wpAnyH_take (i := 10) (v := ?zv5x10) rfl (by kernel_rfl) (by kernel_rfl) (by kernel_rfl) (fun _ _ _ h => h) (Or.inl ⟨by rfl, ?zy5x10⟩) (by assumption) ?zr5x10
              case zy5x10 => (intro w hSw; (try dsimp only at hSw); (try simp only [List.getElem_toArray, List.getElem_cons_zero, List.getElem_cons_succ]); go_simp; first | done | with_reducible rfl)
              simp only [Act.put, List.getElem_toArray, List.getElem_cons_zero, List.getElem_cons_succ, List.setIfInBounds_toArray, List.set_cons_zero, List.set_cons_succ]
              refine wpAnyH_take (i := 11) (v := ?zv5x11) rfl (by kernel_rfl) (by kernel_rfl) (by kernel_rfl) (fun _ _ _ h => h) (Or.inl ⟨by rfl, ?zy5x11⟩) (by assumption) ?zr5x11
              case zy5x11 => (intro w hSw; (try dsimp only at hSw); (try simp only [List.getElem_toArray, List.getElem_cons_zero, List.getElem_cons_succ]); go_simp; first | done | with_reducible rfl)
              simp only [Act.put, List.getElem_toArray, List.getElem_cons_zero, List.getElem_cons_succ, List.setIfInBounds_toArray, List.set_cons_zero, List.set_cons_succ]
              refine wpAnyH_take (i := 12) (v := ?zv5x12) rfl (by kernel_rfl) (by kernel_rfl) (by kernel_rfl) (fun _ _ _ h => h) (Or.inl ⟨by rfl, ?zy5x12⟩) (by assumption) ?zr5x12
              case zy5x12 => (intro w hSw; (try dsimp only at hSw); (try simp only [List.getElem_toArray, List.getElem_cons_zero, List.getElem_cons_succ]); go_simp; first | done | with_reducible rfl)
              simp only [Act.put, List.getElem_toArray, List.getElem_cons_zero, List.getElem_cons_succ, List.setIfInBounds_toArray, List.set_cons_zero, List.set_cons_succ]
              refine wpAnyH_take (i := 13) (v := ?zv5x13) rfl (by kernel_rfl) (by kernel_rfl) (by kernel_rfl) (fun _ _ _ h => h) (Or.inl ⟨by rfl, ?zy5x13⟩) (by assumption) ?zr5x13
              case zy5x13 => (intro w hSw; (try dsimp only at hSw); (try simp only [List.getElem_toArray, List.getElem_cons_zero, List.getElem_cons_succ]); go_simp; first | done | with_reducible rfl)
              simp only [Act.put, List.getElem_toArray, List.getElem_cons_zero, List.getElem_cons_succ, List.setIfInBounds_toArray, List.set_cons_zero, List.set_cons_succ]
              refine wpAnyH_take (i := 14) (v := ?zv5x14) rfl (by kernel_rfl) (by kernel_rfl) (by kernel_rfl) (fun _ _ _ h => h) (Or.inl ⟨by rfl, ?zy5x14⟩) (by assumption) ?zr5x14
              case zy5x14 => (intro w hSw; (try dsimp only at hSw); (try simp only [List.getElem_toArray, List.getElem_cons_zero, List.getElem_cons_succ]); go_simp; first | done | with_reducible rfl)
              simp only [Act.put, List.getElem_toArray, List.getElem_cons_zero, List.getElem_cons_succ, List.setIfInBounds_toArray, List.set_cons_zero, List.set_cons_succ]
              refine wpAnyH_take (i := 15) (v := ?zv5x15) rfl (by kernel_rfl) (by kernel_rfl) (by kernel_rfl) (fun _ _ _ h => h) (Or.inl ⟨by rfl, ?zy5x15⟩) (by assumption) ?zr5x15
              case zy5x15 => (intro w hSw; (try dsimp only at hSw); (try simp only [List.getElem_toArray, List.getElem_cons_zero, List.getElem_cons_succ]); go_simp; first | done | with_reducible rfl)
              simp only [Act.put, List.getElem_toArray, List.getElem_cons_zero, List.getElem_cons_succ, List.setIfInBounds_toArray, List.set_cons_zero, List.set_cons_succ]
              refine wpAnyH_take (i := 16) (v := ?zv5x16) rfl (by kernel_rfl) (by kernel_rfl) (by kernel_rfl) (fun _ _ _ h => h) (Or.inl ⟨by rfl, ?zy5x16⟩) (by assumption) ?zr5x16
              case zy5x16 => (intro w hSw; (try dsimp only at hSw); (try simp only [List.getElem_toArray, List.getElem_cons_zero, List.getElem_cons_succ]); go_simp; first | done | with_reducible rfl)
              simp only [Act.put, List.getElem_toArray, List.getElem_cons_zero, List.getElem_cons_succ, List.setIfInBounds_toArray, List.set_cons_zero, List.set_cons_succ]
              refine wpAnyH_take (i := 17) (v := ?zv5x17) rfl (by kernel_rfl) (by kernel_rfl) (by kernel_rfl) (fun _ _ _ h => h) (Or.inl ⟨by rfl, ?zy5x17⟩) (by assumption) ?zr5x17
              case zy5x17 => (intro w hSw; (try dsimp only at hSw); (try simp only [List.getElem_toArray, List.getElem_cons_zero, List.getElem_cons_succ]); go_simp; first | done | with_reducible rfl)
              simp only [Act.put, List.getElem_toArray, List.getElem_cons_zero, List.getElem_cons_succ, List.setIfInBounds_toArray, List.set_cons_zero, List.set_cons_succ]
              refine wpAnyH_take (i := 18) (v := ?zv5x18) rfl (by kernel_rfl) (by kernel_rfl) (by kernel_rfl) (fun _ _ _ h => h) (Or.inl ⟨by rfl, ?zy5x18⟩) (by assumption) ?zr5x18
              case zy5x18 => (intro w hSw; (try dsimp only at hSw); (try simp only [List.getElem_toArray, List.getElem_cons_zero, List.getElem_cons_succ]); go_simp; first | done | with_reducible rfl)
              simp only [Act.put, List.getElem_toArray, List.getElem_cons_zero, List.getElem_cons_succ, List.setIfInBounds_toArray, List.set_cons_zero, List.set_cons_succ]
              refine wpAnyH_ready (rs := [19]) (by kernel_rfl) (by simp) ?_
              refine AllReadyH.cons rfl (fun K hK => ?_) AllReadyH.nil
              try simp only [List.getElem_toArray, List.getElem_cons_zero, List.getElem_cons_succ]
              go_simp
              refine (C2.out _ (bel.trans ((up.out _ B0).mono bel.size))).mono ?_
              rintro e W1 ⟨rfl, b1⟩
              have B1 := B0.trans (b1.mono B0.size)
              have hS1 := cs.out _ B1
              refine hK.out _ _ hS1 (fun hHeld1 => ?_)
              clear hK K
              try simp only [Act.put, List.getElem_toArray, List.getElem_cons_zero, List.getElem_cons_succ, List.setIfInBounds_toArray, List.set_cons_zero, List.set_cons_succ]
              refine wpAnyH_take (i := 20) (v := ?zv5x20) rfl (by kernel_rfl) (by kernel_rfl) (by kernel_rfl) (fun _ _ _ h => h) (Or.inl ⟨by rfl, ?zy5x20⟩) (by assumption) ?zr5x20
              case zy5x20 => (intro w hSw; (try dsimp only at hSw); (try simp only [List.getElem_toArray, List.getElem_cons_zero, List.getElem_cons_succ]); go_simp; first | done | with_reducible rfl)
              simp only [Act.put, List.getElem_toArray, List.getElem_cons_zero, List.getElem_cons_succ, List.setIfInBounds_toArray, List.set_cons_zero, List.set_cons_succ]
              refine wpAnyH_take (i := 21) (v := ?zv5x21) rfl (by kernel_rfl) (by kernel_rfl) (by kernel_rfl) (fun _ _ _ h => h) (Or.inl ⟨by rfl, ?zy5x21⟩) (by assumption) ?zr5x21
              case zy5x21 => (intro w hSw; (try dsimp only at hSw); (try simp only [List.getElem_toArray, List.getElem_cons_zero, List.getElem_cons_succ]); go_simp; first | done | with_reducible rfl)
              simp only [Act.put, List.getElem_toArray, List.getElem_cons_zero, List.getElem_cons_succ, List.setIfInBounds_toArray, List.set_cons_zero, List.set_cons_succ]
              refine wpAnyH_take (i := 22) (v := undef) rfl (by kernel_rfl) (by kernel_rfl) (by kernel_rfl) (fun _ _ _ h => h) (Or.inr ⟨by rfl, rfl⟩) (by assumption) ?_
              simp only [Act.put, List.getElem_toArray, List.getElem_cons_zero, List.getElem_cons_succ, List.setIfInBounds_toArray, List.set_cons_zero, List.set_cons_succ]
              refine wpAnyH_take (i := 23) (v := undef) rfl (by kernel_rfl) (by kernel_rfl) (by kernel_rfl) (fun _ _ _ h => h) (Or.inr ⟨by rfl, rfl⟩) (by assumption) ?_
              simp only [Act.put, List.getElem_toArray, List.getElem_cons_zero, List.getElem_cons_succ, List.setIfInBounds_toArray, List.set_cons_zero, List.set_cons_succ]
              refine wpAnyH_take (i := 24) (v := undef) rfl (by kernel_rfl) (by kernel_rfl) (by kernel_rfl) (fun _ _ _ h => h) (Or.inr ⟨by rfl, rfl⟩) (by assumption) ?_
              simp only [Act.put, List.getElem_toArray, List.getElem_cons_zero, List.getElem_cons_succ, List.setIfInBounds_toArray, List.set_cons_zero, List.set_cons_succ]
              refine wpAnyH_take (i := 25) (v := undef) rfl (by kernel_rfl) (by kernel_rfl) (by kernel_rfl) (fun _ _ _ h => h) (Or.inr ⟨by rfl, rfl⟩) (by assumption) ?_
              simp only [Act.put, List.getElem_toArray, List.getElem_cons_zero, List.getElem_cons_succ, List.setIfInBounds_toArray, List.set_cons_zero, List.set_cons_succ]
              refine wpAnyH_take (i := 26) (v := undef) rfl (by kernel_rfl) (by kernel_rfl) (by kernel_rfl) (fun _ _ _ h => h) (Or.inr ⟨by rfl, rfl⟩) (by assumption) ?_
              simp only [Act.put, List.getElem_toArray, List.getElem_cons_zero, List.getElem_cons_succ, List.setIfInBounds_toArray, List.set_cons_zero, List.set_cons_succ]
              refine wpAnyH_take (i := 27) (v := undef) rfl (by kernel_rfl) (by kernel_rfl) (by kernel_rfl) (fun _ _ _ h => h) (Or.inr ⟨by rfl, rfl⟩) (by assumption) ?_
              simp only [Act.put, List.getElem_toArray, List.getElem_cons_zero, List.getElem_cons_succ, List.setIfInBounds_toArray, List.set_cons_zero, List.set_cons_succ]
              refine wpAnyH_take (i := 28) (v := undef) rfl (by kernel_rfl) (by kernel_rfl) (by kernel_rfl) (fun _ _ _ h => h) (Or.inr ⟨by rfl, rfl⟩) (by assumption) ?_
              simp only [Act.put, List.getElem_toArray, List.getElem_cons_zero, List.getElem_cons_succ, List.setIfInBounds_toArray, List.set_cons_zero, List.set_cons_succ]
              refine wpAnyH_take (i := 29) (v := undef) rfl (by kernel_rfl) (by kernel_rfl) (by kernel_rfl) (fun _ _ _ h => h) (Or.inr ⟨by rfl, rfl⟩) (by assumption) ?_
              simp only [Act.put, List.getElem_toArray, List.getElem_cons_zero, List.getElem_cons_succ, List.setIfInBounds_toArray, List.set_cons_zero, List.set_cons_succ]
              refine wpAnyH_take (i := 30) (v := undef) rfl (by kernel_rfl) (by kernel_rfl) (by kernel_rfl) (fun _ _ _ h => h) (Or.inr ⟨by rfl, rfl⟩) (by assumption) ?_
              simp only [Act.put, List.getElem_toArray, List.getElem_cons_zero, List.getElem_cons_succ, List.setIfInBounds_toArray, List.set_cons_zero, List.set_cons_succ]
              refine wpAnyH_take (i := 31) (v := undef) rfl (by kernel_rfl) (by kernel_rfl) (by kernel_rfl) (fun _ _ _ h => h) (Or.inr ⟨by rfl, rfl⟩) (by assumption) ?_
              simp only [Act.put, List.getElem_toArray, List.getElem_cons_zero, List.getElem_cons_succ, List.setIfInBounds_toArray, List.set_cons_zero, List.set_cons_succ]
              refine wpAnyH_take (i := 32) (v := undef) rfl (by kernel_rfl) (by kernel_rfl) (by kernel_rfl) (fun _ _ _ h => h) (Or.inr ⟨by rfl, rfl⟩) (by assumption) ?_
              simp only [Act.put, List.getElem_toArray, List.getElem_cons_zero, List.getElem_cons_succ, List.setIfInBounds_toArray, List.set_cons_zero, List.set_cons_succ]
              refine wpAnyH_take (i := 33) (v := undef) rfl (by kernel_rfl) (by kernel_rfl) (by kernel_rfl) (fun _ _ _ h => h) (Or.inr ⟨by rfl, rfl⟩) (by assumption) ?_
              simp only [Act.put, List.getElem_toArray, List.getElem_cons_zero, List.getElem_cons_succ, List.setIfInBounds_toArray, List.set_cons_zero, List.set_cons_succ]
              refine wpAnyH_take (i := 34) (v := undef) rfl (by kernel_rfl) (by kernel_rfl) (by kernel_rfl) (fun _ _ _ h => h) (Or.inr ⟨by rfl, rfl⟩) (by assumption) ?_
              simp only [Act.put, List.getElem_toArray, List.getElem_cons_zero, List.getElem_cons_succ, List.setIfInBounds_toArray, List.set_cons_zero, List.set_cons_succ]
              refine wpAnyH_take (i := 35) (v := undef) rfl (by kernel_rfl) (by kernel_rfl) (by kernel_rfl) (fun _ _ _ h => h) (Or.inr ⟨by rfl, rfl⟩) (by assumption) ?_
              simp only [Act.put, List.getElem_toArray, List.getElem_cons_zero, List.getElem_cons_succ, List.setIfInBounds_toArray, List.set_cons_zero, List.set_cons_succ]
              refine wpAnyH_take (i := 36) (v := undef) rfl (by kernel_rfl) (by kernel_rfl) (by kernel_rfl) (fun _ _ _ h => h) (Or.inr ⟨by rfl, rfl⟩) (by assumption) ?_
              simp only [Act.put, List.getElem_toArray, List.getElem_cons_zero, List.getElem_cons_succ, List.setIfInBounds_toArray, List.set_cons_zero, List.set_cons_succ]
              refine wpAnyH_take (i := 37) (v := undef) rfl (by kernel_rfl) (by kernel_rfl) (by kernel_rfl) (fun _ _ _ h => h) (Or.inr ⟨by rfl, rfl⟩) (by assumption) ?_
              simp only [Act.put, List.getElem_toArray, List.getElem_cons_zero, List.getElem_cons_succ, List.setIfInBounds_toArray, List.set_cons_zero, List.set_cons_succ]
              refine wpAnyH_take (i := 38) (v := ?zv5x38) rfl (by kernel_rfl) (by kernel_rfl) (by kernel_rfl) (fun _ _ _ h => h) (Or.inl ⟨by rfl, ?zy5x38⟩) (by assumption) ?zr5x38
              case zy5x38 => (intro w hSw; (try dsimp only at hSw); (try simp only [List.getElem_toArray, List.getElem_cons_zero, List.getElem_cons_succ]); go_simp; first | done | with_reducible rfl)
              simp only [Act.put, List.getElem_toArray, List.getElem_cons_zero, List.getElem_cons_succ, List.setIfInBounds_toArray, List.set_cons_zero, List.set_cons_succ]
              refine wpAnyH_take (i := 39) (v := ?zv5x39) rfl (by kernel_rfl) (by kernel_rfl) (by kernel_rfl) (fun _ _ _ h => h) (Or.inl ⟨by rfl, ?zy5x39⟩) (by assumption) ?zr5x39
              case zy5x39 => (intro w hSw; (try dsimp only at hSw); (try simp only [List.getElem_toArray, List.getElem_cons_zero, List.getElem_cons_succ]); go_simp; first | done | with_reducible rfl)
              simp only [Act.put, List.getElem_toArray, List.getElem_cons_zero, List.getElem_cons_succ, List.setIfInBounds_toArray, List.set_cons_zero, List.set_cons_succ]
              refine wpAnyH_done (by kernel_rfl) ?_ _
              refine NoPanic.normal ?_
              obtain ⟨⟨_, _, _, _⟩, ⟨_, _, _, _⟩⟩ := cs.out _ B1
              obtain ⟨_, _, _, _⟩ := kp.out _ (bel0.trans ((up.out _ B1).mono sz))
              cases he : (y.t.toList == [42]) with
              | true =>
                have HP3 : Hid (elB l.length t 1 y = (decide (l.length ≤ 1) && !(t.toList == []) && ((1 : Int) == 0))) := by show _ = _; rw [HP.out, if_pos he]
                by_cases hl1 : l.length ≤ 1
                · have hl1' : ¬ (1 : Int) < (l.length : Int) := by omega
                  cases h0 : (t.toList == []) with
                  | true =>
                    have HR : Hid (l.all (elB l.length t 1) = false) := HB.out (by rw [HP3.out, h0]; simp)
                    clear HB HG HP
                    go_wp2
                    go_ret
                    exact ⟨ret_b (by first | rw [Bool.true_and, HR.out] | rw [HR.out]), (bel.trans ((up.out _ B1).mono bel.size))⟩
                  | false =>
                    have HR : Hid (l.all (elB l.length t 1) = false) := HB.out (by rw [HP3.out]; simp)
                    clear HB HG HP
                    go_wp2
                    go_ret
                    exact ⟨ret_b (by first | rw [Bool.true_and, HR.out] | rw [HR.out]), (bel.trans ((up.out _ B1).mono bel.size))⟩
                · have hl1' : (1 : Int) < (l.length : Int) := by omega
                  have HR : Hid (l.all (elB l.length t 1) = false) := HB.out (by rw [HP3.out]; simp [hl1])
                  clear HB HG HP
                  go_wp2
                  go_ret
                  exact ⟨ret_b (by first | rw [Bool.true_and, HR.out] | rw [HR.out]), (bel.trans ((up.out _ B1).mono bel.size))⟩
              | false =>
                have HP3 : Hid (elB l.length t 1 y = (propT false y.t.data.toList && (!(t.toList == []) || idT false y.t))) := by show _ = _; rw [HP.out, if_neg (by rw [he]; decide)]
                generalize propT false y.t.data.toList = pt at *
                generalize idT false y.t = it at *
                cases pt with
                | false =>
                  have HR : Hid (l.all (elB l.length t 1) = false) := HB.out HP3.out
                  clear HB HG HP
                  go_wp2_with (go_at_call 48; refine (C1.out _ (bel.trans ((up.out _ B1).mono bel.size))).mono ?_; rintro e W8 ⟨rfl, b8⟩; have B8 := B1.trans (b8.mono B1.size); obtain ⟨⟨_, _, _, _⟩, ⟨_, _, _, _⟩⟩ := cs.out _ B8; obtain ⟨_, _, _, _⟩ := kp.out _ (bel0.trans ((up.out _ B8).mono sz)))
                  go_ret
                  exact ⟨ret_b (by first | rw [Bool.true_and, HR.out] | rw [HR.out]), (bel.trans ((up.out _ B8).mono bel.size))⟩
                | true =>
                  cases h0 : (t.toList == []) with
                  | false =>
                    have HR : Hid (∀ z ∈ l.take (k + 1), elB l.length t 1 z = true) := HG.out (by rw [HP3.out, h0]; rfl)
                    clear HB HG HP HP3
                    go_wp2_with (go_at_call 48; refine (C1.out _ (bel.trans ((up.out _ B1).mono bel.size))).mono ?_; rintro e W8 ⟨rfl, b8⟩; have B8 := B1.trans (b8.mono B1.size); obtain ⟨⟨_, _, _, _⟩, ⟨_, _, _, _⟩⟩ := cs.out _ B8; obtain ⟨_, _, _, _⟩ := kp.out _ (bel0.trans ((up.out _ B8).mono sz)))
                    go_roundg (gk - 1)
                    case rel => exact ⟨k + 1, by simp, by have := hk.out; show _ = _; omega, bel0.trans ((up.out _ B8).mono sz), HR⟩
                    case measure => have := hk.out; omega
                  | true =>
                    cases it with
                    | false =>
                      have HR : Hid (l.all (elB l.length t 1) = false) := HB.out (by rw [HP3.out, h0]; rfl)
                      clear HB HG HP
                      go_wp2_with (first
                        | (go_at_call 48; refine (C1.out _ (bel.trans ((up.out _ B1).mono bel.size))).mono ?_; rintro e W8 ⟨rfl, b8⟩; have B8 := B1.trans (b8.mono B1.size); obtain ⟨⟨_, _, _, _⟩, ⟨_, _, _, _⟩⟩ := cs.out _ B8; obtain ⟨_, _, _, _⟩ := kp.out _ (bel0.trans ((up.out _ B8).mono sz)))
                        | (go_at_call 46; refine (C4.out _ (bel.trans ((up.out _ B8).mono bel.size))).mono ?_; rintro e W9 ⟨rfl, b9⟩; have B9 := B8.trans (b9.mono B8.size); obtain ⟨⟨_, _, _, _⟩, ⟨_, _, _, _⟩⟩ := cs.out _ B9; obtain ⟨_, _, _, _⟩ := kp.out _ (bel0.trans ((up.out _ B9).mono sz))))
                      go_ret
                      exact ⟨ret_b (by first | rw [Bool.true_and, HR.out] | rw [HR.out]), (bel.trans ((up.out _ B9).mono bel.size))⟩
                    | true =>
                      have HR : Hid (∀ z ∈ l.take (k + 1), elB l.length t 1 z = true) := HG.out (by rw [HP3.out, h0]; rfl)
                      clear HB HG HP HP3
                      go_wp2_with (first
                        | (go_at_call 48; refine (C1.out _ (bel.trans ((up.out _ B1).mono bel.size))).mono ?_; rintro e W8 ⟨rfl, b8⟩; have B8 := B1.trans (b8.mono B1.size); obtain ⟨⟨_, _, _, _⟩, ⟨_, _, _, _⟩⟩ := cs.out _ B8; obtain ⟨_, _, _, _⟩ := kp.out _ (bel0.trans ((up.out _ B8).mono sz)))
                        | (go_at_call 46; refine (C4.out _ (bel.trans ((up.out _ B8).mono bel.size))).mono ?_; rintro e W9 ⟨rfl, b9⟩; have B9 := B8.trans (b9.mono B8.size); obtain ⟨⟨_, _, _, _⟩, ⟨_, _, _, _⟩⟩ := cs.out _ B9; obtain ⟨_, _, _, _⟩ := kp.out _ (bel0.trans ((up.out _ B9).mono sz))))
                      go_roundg (gk - 1)
                      case rel => exact ⟨k + 1, by simp, by have := hk.out; show _ = _; omega, bel0.trans ((up.out _ B9).mono sz), HR⟩
                      case measure => have := hk.out; omega
            | false =>
              cases az2 with
              | false =>
                have HP := HP2
                have HR : Hid (l.all (elB l.length t 1) = false) := HB.out HP.out
                clear HB HG HP HP2
                go_wp2_with fail
                obtain ⟨WP, hWP⟩ : ∃ W, wr.alloc (Obj.cells #[Value.int IntKind.i64 65, Value.string y.t, Value.int IntKind.i64 0, Value.slice (some ⟨bz, oz, none⟩) 1 ck] 24) = W := ⟨_, rfl⟩
                have cP : Below wr.heap.size wr WP := by rw [← hWP]; exact bel_a _ _
                have mP : WP.heap[wr.heap.size]? = some (.cells #[Value.int IntKind.i64 65, Value.string y.t, Value.int IntKind.i64 0, Value.slice (some ⟨bz, oz, none⟩) 1 ck] 24 (0, 0)) := by rw [← hWP]; exact heap_alloc_new _ _
                rw [hWP]
                clear hWP
                have lP : wr.heap.size < WP.heap.size := (Array.getElem?_eq_some_iff.1 mP).1
                have up : Hid (∀ W', Below WP.heap.size WP W' → Below wr.heap.size wr W') := fun W' b => cP.trans (b.mono cP.size)
                have cs : Hid (∀ W', Below WP.heap.size WP W' → (W'.cell? ⟨wr.heap.size, 0, none⟩ = some (.int .i64 65) ∧ W'.cell? ⟨wr.heap.size, 1, none⟩ = some (.string y.t) ∧ W'.cell? ⟨wr.heap.size, 2, none⟩ = some (.int .i64 0) ∧ W'.cell? ⟨wr.heap.size, 3, none⟩ = some (.slice (some ⟨bz, oz, none⟩) 1 ck)) ∧ (W'.cell? ⟨bz, oz, none⟩ = some (.int .i64 z.k) ∧ W'.cell? ⟨bz, oz + 1, none⟩ = some (.string z.t) ∧ W'.cell? ⟨bz, oz + 2, none⟩ = some (.int .i64 z.n) ∧ W'.cell? ⟨bz, oz + 3, none⟩ = some (.slice az z.ks.length cz))) := fun W' b => ⟨(box4 ((b.block _ lP).trans mP)).1, HZ.out _ (bel.trans ((up.out _ b).mono bel.size))⟩
                clear mP
                have B0 : Below WP.heap.size WP WP.drew := (Below.refl _ _).drew
                have hS0 := cs.out _ B0
                refine wp_region_noPanic ?_
                refine wp_region_held_drew (S := fun W' => (W'.cell? ⟨wr.heap.size, 0, none⟩ = some (.int .i64 65) ∧ W'.cell? ⟨wr.heap.size, 1, none⟩ = some (.string y.t) ∧ W'.cell? ⟨wr.heap.size, 2, none⟩ = some (.int .i64 0) ∧ W'.cell? ⟨wr.heap.size, 3, none⟩ = some (.slice (some ⟨bz, oz, none⟩) 1 ck)) ∧ (W'.cell? ⟨bz, oz, none⟩ = some (.int .i64 z.k) ∧ W'.cell? ⟨bz, oz + 1, none⟩ = some (.string z.t) ∧ W'.cell? ⟨bz, oz + 2, none⟩ = some (.int .i64 z.n) ∧ W'.cell? ⟨bz, oz + 3, none⟩ = some (.slice az z.ks.length cz))) (by kernel_rfl) hS0 (fun hHeld => ?_)
                refine wpAnyH_take (i := 0) (v := ?zv6x0) rfl (by kernel_rfl) (by kernel_rfl) (by kernel_rfl) (fun _ _ _ h => h) (Or.inl ⟨by rfl, ?zy6x0⟩) (by assumption) ?zr6x0
                case zy6x0 => (intro w hSw; (try dsimp only at hSw); (try simp only [List.getElem_toArray, List.getElem_cons_zero, List.getElem_cons_succ]); go_simp; first | done | with_reducible rfl)
                simp only [Act.put, List.getElem_toArray, List.getElem_cons_zero, List.getElem_cons_succ, List.setIfInBounds_toArray, List.set_cons_zero, List.set_cons_succ]
                refine wpAnyH_take (i := 1) (v := ?zv6x1) rfl (by kernel_rfl) (by kernel_rfl) (by kernel_rfl) (fun _ _ _ h => h) (Or.inl ⟨by rfl, ?zy6x1⟩) (by assumption) ?zr6x1
                case zy6x1 => (intro w hSw; (try dsimp only at hSw); (try simp only [List.getElem_toArray, List.getElem_cons_zero, List.getElem_cons_succ]); go_simp; first | done | with_reducible rfl)
                simp only [Act.put, List.getElem_toArray, List.getElem_cons_zero, List.getElem_cons_succ, List.setIfInBounds_toArray, List.set_cons_zero, List.set_cons_succ]
                refine wpAnyH_take (i := 2) (v := ?zv6x2) rfl (by kernel_rfl) (by kernel_rfl) (by kernel_rfl) (fun _ _ _ h => h) (Or.inl ⟨by rfl, ?zy6x2⟩) (by assumption) ?zr6x2
                case zy6x2 => (intro w hSw; (try dsimp only at hSw); (try simp only [List.getElem_toArray, List.getElem_cons_zero, List.getElem_cons_succ]); go_simp; first | done | with_reducible rfl)
                simp only [Act.put, List.getElem_toArray, List.getElem_cons_zero, List.getElem_cons_succ, List.setIfInBounds_toArray, List.set_cons_zero, List.set_cons_succ]
                refine wpAnyH_take (i := 3) (v := ?zv6x3) rfl (by kernel_rfl) (by kernel_rfl) (by kernel_rfl) (fun _ _ _ h => h) (Or.inl ⟨by rfl, ?zy6x3⟩) (by assumption) ?zr6x3
                case zy6x3 => (intro w hSw; (try dsimp only at hSw); (try simp only [List.getElem_toArray, List.getElem_cons_zero, List.getElem_cons_succ]); go_simp; first | done | with_reducible rfl)
                simp only [Act.put, List.getElem_toArray, List.getElem_cons_zero, List.getElem_cons_succ, List.setIfInBounds_toArray, List.set_cons_zero, List.set_cons_succ]
                refine wpAnyH_take (i := 4) (v := ?zv6x4) rfl (by kernel_rfl) (by kernel_rfl) (by kernel_rfl) (fun _ _ _ h => h) (Or.inl ⟨by rfl, ?zy6x4⟩) (by assumption) ?zr6x4
                case zy6x4 => (intro w hSw; (try dsimp only at hSw); (try simp only [List.getElem_toArray, List.getElem_cons_zero, List.getElem_cons_succ]); go_simp; first | done | with_reducible rfl)
                simp only [Act.put, List.getElem_toArray, List.getElem_cons_zero, List.getElem_cons_succ, List.setIfInBounds_toArray, List.set_cons_zero, List.set_cons_succ]
                refine wpAnyH_take (i := 5) (v := ?zv6x5) rfl (by kernel_rfl) (by kernel_rfl) (by kernel_rfl) (fun _ _ _ h => h) (Or.inl ⟨by rfl, ?zy6x5⟩) (by assumption) ?zr6x5
                case zy6x5 => (intro w hSw; (try dsimp only at hSw); (try simp only [List.getElem_toArray, List.getElem_cons_zero, List.getElem_cons_succ]); go_simp; first | done | with_reducible rfl)
                simp only [Act.put, List.getElem_toArray, List.getElem_cons_zero, List.getElem_cons_succ, List.setIfInBounds_toArray, List.set_cons_zero, List.set_cons_succ]
                refine wpAnyH_take (i := 6) (v := ?zv6x6) rfl (by kernel_rfl) (by kernel_rfl) (by kernel_rfl) (fun _ _ _ h => h) (Or.inl ⟨by rfl, ?zy6x6⟩) (by assumption) ?zr6x6
                case zy6x6 => (intro w hSw; (try dsimp only at hSw); (try simp only [List.getElem_toArray, List.getElem_cons_zero, List.getElem_cons_succ]); go_simp; first | done | with_reducible rfl)
                simp only [Act.put, List.getElem_toArray, List.getElem_cons_zero, List.getElem_cons_succ, List.setIfInBounds_toArray, List.set_cons_zero, List.set_cons_succ]
                refine wpAnyH_take (i := 7) (v := ?zv6x7) rfl (by kernel_rfl) (by kernel_rfl) (by kernel_rfl) (fun _ _ _ h => h) (Or.inl ⟨by rfl, ?zy6x7⟩) (by assumption) ?zr6x7
                case zy6x7 => (intro w hSw; (try dsimp only at hSw); (try simp only [List.getElem_toArray, List.getElem_cons_zero, List.getElem_cons_succ]); go_simp; first | done | with_reducible rfl)
                simp only [Act.put, List.getElem_toArray, List.getElem_cons_zero, List.getElem_cons_succ, List.setIfInBounds_toArray, List.set_cons_zero, List.set_cons_succ]
                refine wpAnyH_take (i := 8) (v := ?zv6x8) rfl (by kernel_rfl) (by kernel_rfl) (by kernel_rfl) (fun _ _ _ h => h) (Or.inl ⟨by rfl, ?zy6x8⟩) (by assumption) ?zr6x8
                case zy6x8 => (intro w hSw; (try dsimp only at hSw); (try simp only [List.getElem_toArray, List.getElem_cons_zero, List.getElem_cons_succ]); go_simp; first | done | with_reducible rfl)
                simp only [Act.put, List.getElem_toArray, List.getElem_cons_zero, List.getElem_cons_succ, List.setIfInBounds_toArray, List.set_cons_zero, List.set_cons_succ]
                refine wpAnyH_take (i := 9) (v := ?zv6x9) rfl (by kernel_rfl) (by kernel_rfl) (by kernel_rfl) (fun _ _ _ h => h) (Or.inl ⟨by rfl, ?zy6x9⟩) (by assumption) ?zr6x9
                case zy6x9 => (intro w hSw; (try dsimp only at hSw); (try simp only [List.getElem_toArray, List.getElem_cons_zero, List.getElem_cons_succ]); go_simp; first | done | with_reducible rfl)
                simp only [Act.put, List.getElem_toArray, List.getElem_cons_zero, List.getElem_cons_succ, List.setIfInBounds_toArray, List.set_cons_zero, List.set_cons_succ]
                refine wpAnyH_take (i := 10) (v := ?zv6x10) rfl (by kernel_rfl) (by kernel_rfl) (by kernel_rfl) (fun _ _ _ h => h) (Or.inl ⟨by rfl, ?zy6x10⟩) (by assumption) ?zr6x10
                case zy6x10 => (intro w hSw; (try dsimp only at hSw); (try simp only [List.getElem_toArray, List.getElem_cons_zero, List.getElem_cons_succ]); go_simp; first | done | with_reducible rfl)
                simp only [Act.put, List.getElem_toArray, List.getElem_cons_zero, List.getElem_cons_succ, List.setIfInBounds_toArray, List.set_cons_zero, List.set_cons_succ]
                refine wpAnyH_take (i := 11) (v := ?zv6x11) rfl (by kernel_rfl) (by kernel_rfl) (by kernel_rfl) (fun _ _ _ h => h) (Or.inl ⟨by rfl, ?zy6x11⟩) (by assumption) ?zr6x11
                case zy6x11 => (intro w hSw; (try dsimp only at hSw); (try simp only [List.getElem_toArray, List.getElem_cons_zero, List.getElem_cons_succ]); go_simp; first | done | with_reducible rfl)
                simp only [Act.put, List.getElem_toArray, List.getElem_cons_zero, List.getElem_cons_succ, List.setIfInBounds_toArray, List.set_cons_zero, List.set_cons_succ]
                refine wpAnyH_take (i := 12) (v := ?zv6x12) rfl (by kernel_rfl) (by kernel_rfl) (by kernel_rfl) (fun _ _ _ h => h) (Or.inl ⟨by rfl, ?zy6x12⟩) (by assumption) ?zr6x12
                case zy6x12 => (intro w hSw; (try dsimp only at hSw); (try simp only [List.getElem_toArray, List.getElem_cons_zero, List.getElem_cons_succ]); go_simp; first | done | with_reducible rfl)
                simp only [Act.put, List.getElem_toArray, List.getElem_cons_zero, List.getElem_cons_succ, List.setIfInBounds_toArray, List.set_cons_zero, List.set_cons_succ]
                refine wpAnyH_take (i := 13) (v := ?zv6x13) rfl (by kernel_rfl) (by kernel_rfl) (by kernel_rfl) (fun _ _ _ h => h) (Or.inl ⟨by rfl, ?zy6x13⟩) (by assumption) ?zr6x13
                case zy6x13 => (intro w hSw; (try dsimp only at hSw); (try simp only [List.getElem_toArray, List.getElem_cons_zero, List.getElem_cons_succ]); go_simp; first | done | with_reducible rfl)
                simp only [Act.put, List.getElem_toArray, List.getElem_cons_zero, List.getElem_cons_succ, List.setIfInBounds_toArray, List.set_cons_zero, List.set_cons_succ]
                refine wpAnyH_take (i := 14) (v := ?zv6x14) rfl (by kernel_rfl) (by kernel_rfl) (by kernel_rfl) (fun _ _ _ h => h) (Or.inl ⟨by rfl, ?zy6x14⟩) (by assumption) ?zr6x14
                case zy6x14 => (intro w hSw; (try dsimp only at hSw); (try simp only [List.getElem_toArray, List.getElem_cons_zero, List.getElem_cons_succ]); go_simp; first | done | with_reducible rfl)
                simp only [Act.put, List.getElem_toArray, List.getElem_cons_zero, List.getElem_cons_succ, List.setIfInBounds_toArray, List.set_cons_zero, List.set_cons_succ]
                refine wpAnyH_take (i := 15) (v := ?zv6x15) rfl (by kernel_rfl) (by kernel_rfl) (by kernel_rfl) (fun _ _ _ h => h) (Or.inl ⟨by rfl, ?zy6x15⟩) (by assumption) ?zr6x15
                case zy6x15 => (intro w hSw; (try dsimp only at hSw); (try simp only [List.getElem_toArray, List.getElem_cons_zero, List.getElem_cons_succ]); go_simp; first | done | with_reducible rfl)
                simp only [Act.put, List.getElem_toArray, List.getElem_cons_zero, List.getElem_cons_succ, List.setIfInBounds_toArray, List.set_cons_zero, List.set_cons_succ]
                refine wpAnyH_take (i := 16) (v := ?zv6x16) rfl (by kernel_rfl) (by kernel_rfl) (by kernel_rfl) (fun _ _ _ h => h) (Or.inl ⟨by rfl, ?zy6x16⟩) (by assumption) ?zr6x16
                case zy6x16 => (intro w hSw; (try dsimp only at hSw); (try simp only [List.getElem_toArray, List.getElem_cons_zero, List.getElem_cons_succ]); go_simp; first | done | with_reducible rfl)
                simp only [Act.put, List.getElem_toArray, List.getElem_cons_zero, List.getElem_cons_succ, List.setIfInBounds_toArray, List.set_cons_zero, List.set_cons_succ]
                refine wpAnyH_take (i := 17) (v := ?zv6x17) rfl (by kernel_rfl) (by kernel_rfl) (by kernel_rfl) (fun _ _ _ h => h) (Or.inl ⟨by rfl, ?zy6x17⟩) (by assumption) ?zr6x17
                case zy6x17 => (intro w hSw; (try dsimp only at hSw); (try simp only [List.getElem_toArray, List.getElem_cons_zero, List.getElem_cons_succ]); go_simp; first | done | with_reducible rfl)
                simp only [Act.put, List.getElem_toArray, List.getElem_cons_zero, List.getElem_cons_succ, List.setIfInBounds_toArray, List.set_cons_zero, List.set_cons_succ]
                refine wpAnyH_take (i := 18) (v := ?zv6x18) rfl (by kernel_rfl) (by kernel_rfl) (by kernel_rfl) (fun _ _ _ h => h) (Or.inl ⟨by rfl, ?zy6x18⟩) (by assumption) ?zr6x18
                case zy6x18 => (intro w hSw; (try dsimp only at hSw); (try simp only [List.getElem_toArray, List.getElem_cons_zero, List.getElem_cons_succ]); go_simp; first | done | with_reducible rfl)
                simp only [Act.put, List.getElem_toArray, List.getElem_cons_zero, List.getElem_cons_succ, List.setIfInBounds_toArray, List.set_cons_zero, List.set_cons_succ]
                refine wpAnyH_ready (rs := [19]) (by kernel_rfl) (by simp) ?_
                refine AllReadyH.cons rfl (fun K hK => ?_) AllReadyH.nil
                try simp only [List.getElem_toArray, List.getElem_cons_zero, List.getElem_cons_succ]
                go_simp
                refine (C2.out _ (bel.trans ((up.out _ B0).mono bel.size))).mono ?_
                rintro e W1 ⟨rfl, b1⟩
                have B1 := B0.trans (b1.mono B0.size)
                have hS1 := cs.out _ B1
                refine hK.out _ _ hS1 (fun hHeld1 => ?_)
                clear hK K
                try simp only [Act.put, List.getElem_toArray, List.getElem_cons_zero, List.getElem_cons_succ, List.setIfInBounds_toArray, List.set_cons_zero, List.set_cons_succ]
                refine wpAnyH_take (i := 20) (v := ?zv6x20) rfl (by kernel_rfl) (by kernel_rfl) (by kernel_rfl) (fun _ _ _ h => h) (Or.inl ⟨by rfl, ?zy6x20⟩) (by assumption) ?zr6x20
                case zy6x20 => (intro w hSw; (try dsimp only at hSw); (try simp only [List.getElem_toArray, List.getElem_cons_zero, List.getElem_cons_succ]); go_simp; first | done | with_reducible rfl)
                simp only [Act.put, List.getElem_toArray, List.getElem_cons_zero, List.getElem_cons_succ, List.setIfInBounds_toArray, List.set_cons_zero, List.set_cons_succ]
                refine wpAnyH_take (i := 21) (v := ?zv6x21) rfl (by kernel_rfl) (by kernel_rfl) (by kernel_rfl) (fun _ _ _ h => h) (Or.inl ⟨by rfl, ?zy6x21⟩) (by assumption) ?zr6x21
                case zy6x21 => (intro w hSw; (try dsimp only at hSw); (try simp only [List.getElem_toArray, List.getElem_cons_zero, List.getElem_cons_succ]); go_simp; first | done | with_reducible rfl)
                simp only [Act.put, List.getElem_toArray, List.getElem_cons_zero, List.getElem_cons_succ, List.setIfInBounds_toArray, List.set_cons_zero, List.set_cons_succ]
                refine wpAnyH_take (i := 22) (v := ?zv6x22) rfl (by kernel_rfl) (by kernel_rfl) (by kernel_rfl) (fun _ _ _ h => h) (Or.inl ⟨by rfl, ?zy6x22⟩) (by assumption) ?zr6x22
                case zy6x22 => (intro w hSw; (try dsimp only at hSw); (try simp only [List.getElem_toArray, List.getElem_cons_zero, List.getElem_cons_succ]); go_simp; first | done | with_reducible rfl)
                simp only [Act.put, List.getElem_toArray, List.getElem_cons_zero, List.getElem_cons_succ, List.setIfInBounds_toArray, List.set_cons_zero, List.set_cons_succ]
                refine wpAnyH_take (i := 23) (v := ?zv6x23) rfl (by kernel_rfl) (by kernel_rfl) (by kernel_rfl) (fun _ _ _ h => h) (Or.inl ⟨by rfl, ?zy6x23⟩) (by assumption) ?zr6x23
                case zy6x23 => (intro w hSw; (try dsimp only at hSw); (try simp only [List.getElem_toArray, List.getElem_cons_zero, List.getElem_cons_succ]); go_simp; first | done | with_reducible rfl)
                simp only [Act.put, List.getElem_toArray, List.getElem_cons_zero, List.getElem_cons_succ, List.setIfInBounds_toArray, List.set_cons_zero, List.set_cons_succ]
                refine wpAnyH_take (i := 24) (v := ?zv6x24) rfl (by kernel_rfl) (by kernel_rfl) (by kernel_rfl) (fun _ _ _ h => h) (Or.inl ⟨by rfl, ?zy6x24⟩) (by assumption) ?zr6x24
                case zy6x24 => (intro w hSw; (try dsimp only at hSw); (try simp only [List.getElem_toArray, List.getElem_cons_zero, List.getElem_cons_succ]); go_simp; first | done | with_reducible rfl)
                simp only [Act.put, List.getElem_toArray, List.getElem_cons_zero, List.getElem_cons_succ, List.setIfInBounds_toArray, List.set_cons_zero, List.set_cons_succ]
                refine wpAnyH_take (i := 25) (v := ?zv6x25) rfl (by kernel_rfl) (by kernel_rfl) (by kernel_rfl) (fun _ _ _ h => h) (Or.inl ⟨by rfl, ?zy6x25⟩) (by assumption) ?zr6x25
                case zy6x25 => (intro w hSw; (try dsimp only at hSw); (try simp only [List.getElem_toArray, List.getElem_cons_zero, List.getElem_cons_succ]); go_simp; first | done | with_reducible rfl)
                simp only [Act.put, List.getElem_toArray, List.getElem_cons_zero, List.getElem_cons_succ, List.setIfInBounds_toArray, List.set_cons_zero, List.set_cons_succ]
                refine wpAnyH_ready (rs := [26]) (by kernel_rfl) (by simp) ?_
                refine AllReadyH.cons rfl (fun K hK => ?_) AllReadyH.nil
                try simp only [List.getElem_toArray, List.getElem_cons_zero, List.getElem_cons_succ]
                go_simp
                refine (C3.out _ (bel.trans ((up.out _ B1).mono bel.size))).mono ?_
                rintro e W2 ⟨rfl, b2⟩
                have B2 := B1.trans (b2.mono B1.size)
                have hS2 := cs.out _ B2
                refine hK.out _ _ hS2 (fun hHeld2 => ?_)
                clear hK K
                try simp only [Act.put, List.getElem_toArray, List.getElem_cons_zero, List.getElem_cons_succ, List.setIfInBounds_toArray, List.set_cons_zero, List.set_cons_succ]
                refine wpAnyH_take (i := 27) (v := ?zv6x27) rfl (by kernel_rfl) (by kernel_rfl) (by kernel_rfl) (fun _ _ _ h => h) (Or.inl ⟨by rfl, ?zy6x27⟩) (by assumption) ?zr6x27
                case zy6x27 => (intro w hSw; (try dsimp only at hSw); (try simp only [List.getElem_toArray, List.getElem_cons_zero, List.getElem_cons_succ]); go_simp; first | done | with_reducible rfl)
                simp only [Act.put, List.getElem_toArray, List.getElem_cons_zero, List.getElem_cons_succ, List.setIfInBounds_toArray, List.set_cons_zero, List.set_cons_succ]
                refine wpAnyH_take (i := 28) (v := ?zv6x28) rfl (by kernel_rfl) (by kernel_rfl) (by kernel_rfl) (fun _ _ _ h => h) (Or.inl ⟨by rfl, ?zy6x28⟩) (by assumption) ?zr6x28
                case zy6x28 => (intro w hSw; (try dsimp only at hSw); (try simp only [List.getElem_toArray, List.getElem_cons_zero, List.getElem_cons_succ]); go_simp; first | done | with_reducible rfl)
                simp only [Act.put, List.getElem_toArray, List.getElem_cons_zero, List.getElem_cons_succ, List.setIfInBounds_toArray, List.set_cons_zero, List.set_cons_succ]
                refine wpAnyH_take (i := 29) (v := undef) rfl (by kernel_rfl) (by kernel_rfl) (by kernel_rfl) (fun _ _ _ h => h) (Or.inr ⟨by rfl, rfl⟩) (by assumption) ?_
                simp only [Act.put, List.getElem_toArray, List.getElem_cons_zero, List.getElem_cons_succ, List.setIfInBounds_toArray, List.set_cons_zero, List.set_cons_succ]
                refine wpAnyH_take (i := 30) (v := undef) rfl (by kernel_rfl) (by kernel_rfl) (by kernel_rfl) (fun _ _ _ h => h) (Or.inr ⟨by rfl, rfl⟩) (by assumption) ?_
                simp only [Act.put, List.getElem_toArray, List.getElem_cons_zero, List.getElem_cons_succ, List.setIfInBounds_toArray, List.set_cons_zero, List.set_cons_succ]
                refine wpAnyH_take (i := 31) (v := undef) rfl (by kernel_rfl) (by kernel_rfl) (by kernel_rfl) (fun _ _ _ h => h) (Or.inr ⟨by rfl, rfl⟩) (by assumption) ?_
                simp only [Act.put, List.getElem_toArray, List.getElem_cons_zero, List.getElem_cons_succ, List.setIfInBounds_toArray, List.set_cons_zero, List.set_cons_succ]
                refine wpAnyH_take (i := 32) (v := undef) rfl (by kernel_rfl) (by kernel_rfl) (by kernel_rfl) (fun _ _ _ h => h) (Or.inr ⟨by rfl, rfl⟩) (by assumption) ?_
                simp only [Act.put, List.getElem_toArray, List.getElem_cons_zero, List.getElem_cons_succ, List.setIfInBounds_toArray, List.set_cons_zero, List.set_cons_succ]
                refine wpAnyH_take (i := 33) (v := undef) rfl (by kernel_rfl) (by kernel_rfl) (by kernel_rfl) (fun _ _ _ h => h) (Or.inr ⟨by rfl, rfl⟩) (by assumption) ?_
                simp only [Act.put, List.getElem_toArray, List.getElem_cons_zero, List.getElem_cons_succ, List.setIfInBounds_toArray, List.set_cons_zero, List.set_cons_succ]
                refine wpAnyH_take (i := 34) (v := undef) rfl (by kernel_rfl) (by kernel_rfl) (by kernel_rfl) (fun _ _ _ h => h) (Or.inr ⟨by rfl, rfl⟩) (by assumption) ?_
                simp only [Act.put, List.getElem_toArray, List.getElem_cons_zero, List.getElem_cons_succ, List.setIfInBounds_toArray, List.set_cons_zero, List.set_cons_succ]
                refine wpAnyH_take (i := 35) (v := undef) rfl (by kernel_rfl) (by kernel_rfl) (by kernel_rfl) (fun _ _ _ h => h) (Or.inr ⟨by rfl, rfl⟩) (by assumption) ?_
                simp only [Act.put, List.getElem_toArray, List.getElem_cons_zero, List.getElem_cons_succ, List.setIfInBounds_toArray, List.set_cons_zero, List.set_cons_succ]
                refine wpAnyH_take (i := 36) (v := undef) rfl (by kernel_rfl) (by kernel_rfl) (by kernel_rfl) (fun _ _ _ h => h) (Or.inr ⟨by rfl, rfl⟩) (by assumption) ?_
                simp only [Act.put, List.getElem_toArray, List.getElem_cons_zero, List.getElem_cons_succ, List.setIfInBounds_toArray, List.set_cons_zero, List.set_cons_succ]
                refine wpAnyH_take (i := 37) (v := ?zv6x37) rfl (by kernel_rfl) (by kernel_rfl) (by kernel_rfl) (fun _ _ _ h => h) (Or.inl ⟨by rfl, ?zy6x37⟩) (by assumption) ?zr6x37
                case zy6x37 => (intro w hSw; (try dsimp only at hSw); (try simp only [List.getElem_toArray, List.getElem_cons_zero, List.getElem_cons_succ]); go_simp; first | done | with_reducible rfl)
                simp only [Act.put, List.getElem_toArray, List.getElem_cons_zero, List.getElem_cons_succ, List.setIfInBounds_toArray, List.set_cons_zero, List.set_cons_succ]
                refine wpAnyH_take (i := 38) (v := ?zv6x38) rfl (by kernel_rfl) (by kernel_rfl) (by kernel_rfl) (fun _ _ _ h => h) (Or.inl ⟨by rfl, ?zy6x38⟩) (by assumption) ?zr6x38
                case zy6x38 => (intro w hSw; (try dsimp only at hSw); (try simp only [List.getElem_toArray, List.getElem_cons_zero, List.getElem_cons_succ]); go_simp; first | done | with_reducible rfl)
                simp only [Act.put, List.getElem_toArray, List.getElem_cons_zero, List.getElem_cons_succ, List.setIfInBounds_toArray, List.set_cons_zero, List.set_cons_succ]
                refine wpAnyH_take (i := 39) (v := ?zv6x39) rfl (by kernel_rfl) (by kernel_rfl) (by kernel_rfl) (fun _ _ _ h => h) (Or.inl ⟨by rfl, ?zy6x39⟩) (by assumption) ?zr6x39
                case zy6x39 => (intro w hSw; (try dsimp only at hSw); (try simp only [List.getElem_toArray, List.getElem_cons_zero, List.getElem_cons_succ]); go_simp; first | done | with_reducible rfl)
                simp only [Act.put, List.getElem_toArray, List.getElem_cons_zero, List.getElem_cons_succ, List.setIfInBounds_toArray, List.set_cons_zero, List.set_cons_succ]
                refine wpAnyH_done (by kernel_rfl) ?_ _
                refine NoPanic.normal ?_
                obtain ⟨⟨_, _, _, _⟩, ⟨_, _, _, _⟩⟩ := cs.out _ B2
                obtain ⟨_, _, _, _⟩ := kp.out _ (bel0.trans ((up.out _ B2).mono sz))
                go_wp2
                go_ret
                exact ⟨ret_b (by first | rw [Bool.true_and, HR.out] | rw [HR.out]), (bel.trans ((up.out _ B2).mono bel.size))⟩
              | true =>
                cases hzt : (z.t.toList == y.t.toList) with
                | true =>
                  have HP := HP2
                  have HR : Hid (l.all (elB l.length t 1) = false) := HB.out (by rw [HP.out, hzt]; rfl)
                  clear HB HG HP HP2
                  go_wp2_with fail
                  obtain ⟨WP, hWP⟩ : ∃ W, wr.alloc (Obj.cells #[Value.int IntKind.i64 65, Value.string y.t, Value.int IntKind.i64 0, Value.slice (some ⟨bz, oz, none⟩) 1 ck] 24) = W := ⟨_, rfl⟩
                  have cP : Below wr.heap.size wr WP := by rw [← hWP]; exact bel_a _ _
                  have mP : WP.heap[wr.heap.size]? = some (.cells #[Value.int IntKind.i64 65, Value.string y.t, Value.int IntKind.i64 0, Value.slice (some ⟨bz, oz, none⟩) 1 ck] 24 (0, 0)) := by rw [← hWP]; exact heap_alloc_new _ _
                  rw [hWP]
                  clear hWP
                  have lP : wr.heap.size < WP.heap.size := (Array.getElem?_eq_some_iff.1 mP).1
                  have up : Hid (∀ W', Below WP.heap.size WP W' → Below wr.heap.size wr W') := fun W' b => cP.trans (b.mono cP.size)
                  have cs : Hid (∀ W', Below WP.heap.size WP W' → (W'.cell? ⟨wr.heap.size, 0, none⟩ = some (.int .i64 65) ∧ W'.cell? ⟨wr.heap.size, 1, none⟩ = some (.string y.t) ∧ W'.cell? ⟨wr.heap.size, 2, none⟩ = some (.int .i64 0) ∧ W'.cell? ⟨wr.heap.size, 3, none⟩ = some (.slice (some ⟨bz, oz, none⟩) 1 ck)) ∧ (W'.cell? ⟨bz, oz, none⟩ = some (.int .i64 z.k) ∧ W'.cell? ⟨bz, oz + 1, none⟩ = some (.string z.t) ∧ W'.cell? ⟨bz, oz + 2, none⟩ = some (.int .i64 z.n) ∧ W'.cell? ⟨bz, oz + 3, none⟩ = some (.slice az z.ks.length cz))) := fun W' b => ⟨(box4 ((b.block _ lP).trans mP)).1, HZ.out _ (bel.trans ((up.out _ b).mono bel.size))⟩
                  clear mP
                  have B0 : Below WP.heap.size WP WP.drew := (Below.refl _ _).drew
                  have hS0 := cs.out _ B0
                  refine wp_region_noPanic ?_
                  refine wp_region_held_drew (S := fun W' => (W'.cell? ⟨wr.heap.size, 0, none⟩ = some (.int .i64 65) ∧ W'.cell? ⟨wr.heap.size, 1, none⟩ = some (.string y.t) ∧ W'.cell? ⟨wr.heap.size, 2, none⟩ = some (.int .i64 0) ∧ W'.cell? ⟨wr.heap.size, 3, none⟩ = some (.slice (some ⟨bz, oz, none⟩) 1 ck)) ∧ (W'.cell? ⟨bz, oz, none⟩ = some (.int .i64 z.k) ∧ W'.cell? ⟨bz, oz + 1, none⟩ = some (.string z.t) ∧ W'.cell? ⟨bz, oz + 2, none⟩ = some (.int .i64 z.n) ∧ W'.cell? ⟨bz, oz + 3, none⟩ = some (.slice az z.ks.length cz))) (by kernel_rfl) hS0 (fun hHeld => ?_)
                  refine wpAnyH_take (i := 0) (v := ?zv7x0) rfl (by kernel_rfl) (by kernel_rfl) (by kernel_rfl) (fun _ _ _ h => h) (Or.inl ⟨by rfl, ?zy7x0⟩) (by assumption) ?zr7x0
                  case zy7x0 => (intro w hSw; (try dsimp only at hSw); (try simp only [List.getElem_toArray, List.getElem_cons_zero, List.getElem_cons_succ]); go_simp; first | done | with_reducible rfl)
                  simp only [Act.put, List.getElem_toArray, List.getElem_cons_zero, List.getElem_cons_succ, List.setIfInBounds_toArray, List.set_cons_zero, List.set_cons_succ]
                  refine wpAnyH_take (i := 1) (v := ?zv7x1) rfl (by kernel_rfl) (by kernel_rfl) (by kernel_rfl) (fun _ _ _ h => h) (Or.inl ⟨by rfl, ?zy7x1⟩) (by assumption) ?zr7x1
                  case zy7x1 => (intro w hSw; (try dsimp only at hSw); (try simp only [List.getElem_toArray, List.getElem_cons_zero, List.getElem_cons_succ]); go_simp; first | done | with_reducible rfl)
                  simp only [Act.put, List.getElem_toArray, List.getElem_cons_zero, List.getElem_cons_succ, List.setIfInBounds_toArray, List.set_cons_zero, List.set_cons_succ]
                  refine wpAnyH_take (i := 2) (v := ?zv7x2) rfl (by kernel_rfl) (by kernel_rfl) (by kernel_rfl) (fun _ _ _ h => h) (Or.inl ⟨by rfl, ?zy7x2⟩) (by assumption) ?zr7x2
                  case zy7x2 => (intro w hSw; (try dsimp only at hSw); (try simp only [List.getElem_toArray, List.getElem_cons_zero, List.getElem_cons_succ]); go_simp; first | done | with_reducible rfl)
                  simp only [Act.put, List.getElem_toArray, List.getElem_cons_zero, List.getElem_cons_succ, List.setIfInBounds_toArray, List.set_cons_zero, List.set_cons_succ]
                  refine wpAnyH_take (i := 3) (v := ?zv7x3) rfl (by kernel_rfl) (by kernel_rfl) (by kernel_rfl) (fun _ _ _ h => h) (Or.inl ⟨by rfl, ?zy7x3⟩) (by assumption) ?zr7x3
                  case zy7x3 => (intro w hSw; (try dsimp only at hSw); (try simp only [List.getElem_toArray, List.getElem_cons_zero, List.getElem_cons_succ]); go_simp; first | done | with_reducible rfl)
                  simp only [Act.put, List.getElem_toArray, List.getElem_cons_zero, List.getElem_cons_succ, List.setIfInBounds_toArray, List.set_cons_zero, List.set_cons_succ]
                  refine wpAnyH_take (i := 4) (v := ?zv7x4) rfl (by kernel_rfl) (by kernel_rfl) (by kernel_rfl) (fun _ _ _ h => h) (Or.inl ⟨by rfl, ?zy7x4⟩) (by assumption) ?zr7x4
                  case zy7x4 => (intro w hSw; (try dsimp only at hSw); (try simp only [List.getElem_toArray, List.getElem_cons_zero, List.getElem_cons_succ]); go_simp; first | done | with_reducible rfl)
                  simp only [Act.put, List.getElem_toArray, List.getElem_cons_zero, List.getElem_cons_succ, List.setIfInBounds_toArray, List.set_cons_zero, List.set_cons_succ]
                  refine wpAnyH_take (i := 5) (v := ?zv7x5) rfl (by kernel_rfl) (by kernel_rfl) (by kernel_rfl) (fun _ _ _ h => h) (Or.inl ⟨by rfl, ?zy7x5⟩) (by assumption) ?zr7x5
                  case zy7x5 => (intro w hSw; (try dsimp only at hSw); (try simp only [List.getElem_toArray, List.getElem_cons_zero, List.getElem_cons_succ]); go_simp; first | done | with_reducible rfl)
                  simp only [Act.put, List.getElem_toArray, List.getElem_cons_zero, List.getElem_cons_succ, List.setIfInBounds_toArray, List.set_cons_zero, List.set_cons_succ]
                  refine wpAnyH_take (i := 6) (v := ?zv7x6) rfl (by kernel_rfl) (by kernel_rfl) (by kernel_rfl) (fun _ _ _ h => h) (Or.inl ⟨by rfl, ?zy7x6⟩) (by assumption) ?zr7x6
                  case zy7x6 => (intro w hSw; (try dsimp only at hSw); (try simp only [List.getElem_toArray, List.getElem_cons_zero, List.getElem_cons_succ]); go_simp; first | done | with_reducible rfl)
                  simp only [Act.put, List.getElem_toArray, List.getElem_cons_zero, List.getElem_cons_succ, List.setIfInBounds_toArray, List.set_cons_zero, List.set_cons_succ]
                  refine wpAnyH_take (i := 7) (v := ?zv7x7) rfl (by kernel_rfl) (by kernel_rfl) (by kernel_rfl) (fun _ _ _ h => h) (Or.inl ⟨by rfl, ?zy7x7⟩) (by assumption) ?zr7x7
                  case zy7x7 => (intro w hSw; (try dsimp only at hSw); (try simp only [List.getElem_toArray, List.getElem_cons_zero, List.getElem_cons_succ]); go_simp; first | done | with_reducible rfl)
                  simp only [Act.put, List.getElem_toArray, List.getElem_cons_zero, List.getElem_cons_succ, List.setIfInBounds_toArray, List.set_cons_zero, List.set_cons_succ]
                  refine wpAnyH_take (i := 8) (v := ?zv7x8) rfl (by kernel_rfl) (by kernel_rfl) (by kernel_rfl) (fun _ _ _ h => h) (Or.inl ⟨by rfl, ?zy7x8⟩) (by assumption) ?zr7x8
                  case zy7x8 => (intro w hSw; (try dsimp only at hSw); (try simp only [List.getElem_toArray, List.getElem_cons_zero, List.getElem_cons_succ]); go_simp; first | done | with_reducible rfl)
                  simp only [Act.put, List.getElem_toArray, List.getElem_cons_zero, List.getElem_cons_succ, List.setIfInBounds_toArray, List.set_cons_zero, List.set_cons_succ]
                  refine wpAnyH_take (i := 9) (v := ?zv7x9) rfl (by kernel_rfl) (by kernel_rfl) (by kernel_rfl) (fun _ _ _ h => h) (Or.inl ⟨by rfl, ?zy7x9⟩) (by assumption) ?zr7x9
                  case zy7x9 => (intro w hSw; (try dsimp only at hSw); (try simp only [List.getElem_toArray, List.getElem_cons_zero, List.getElem_cons_succ]); go_simp; first | done | with_reducible rfl)
                  simp only [Act.put, List.getElem_toArray, List.getElem_cons_zero, List.getElem_cons_succ, List.setIfInBounds_toArray, List.set_cons_zero, List.set_cons_succ]
                  refine wpAnyH_take (i := 10) (v := ?zv7x10) rfl (by kernel_rfl) (by kernel_rfl) (by kernel_rfl) (fun _ _ _ h => h) (Or.inl ⟨by rfl, ?zy7x10⟩) (by assumption) ?zr7x10
                  case zy7x10 => (intro w hSw; (try dsimp only at hSw); (try simp only [List.getElem_toArray, List.getElem_cons_zero, List.getElem_cons_succ]); go_simp; first | done | with_reducible rfl)
                  simp only [Act.put, List.getElem_toArray, List.getElem_cons_zero, List.getElem_cons_succ, List.setIfInBounds_toArray, List.set_cons_zero, List.set_cons_succ]
                  refine wpAnyH_take (i := 11) (v := ?zv7x11) rfl (by kernel_rfl) (by kernel_rfl) (by kernel_rfl) (fun _ _ _ h => h) (Or.inl ⟨by rfl, ?zy7x11⟩) (by assumption) ?zr7x11
                  case zy7x11 => (intro w hSw; (try dsimp only at hSw); (try simp only [List.getElem_toArray, List.getElem_cons_zero, List.getElem_cons_succ]); go_simp; first | done | with_reducible rfl)
                  simp only [Act.put, List.getElem_toArray, List.getElem_cons_zero, List.getElem_cons_succ, List.setIfInBounds_toArray, List.set_cons_zero, List.set_cons_succ]
                  refine wpAnyH_take (i := 12) (v := ?zv7x12) rfl (by kernel_rfl) (by kernel_rfl) (by kernel_rfl) (fun _ _ _ h => h) (Or.inl ⟨by rfl, ?zy7x12⟩) (by assumption) ?zr7x12
                  case zy7x12 => (intro w hSw; (try dsimp only at hSw); (try simp only [List.getElem_toArray, List.getElem_cons_zero, List.getElem_cons_succ]); go_simp; first | done | with_reducible rfl)
                  simp only [Act.put, List.getElem_toArray, List.getElem_cons_zero, List.getElem_cons_succ, List.setIfInBounds_toArray, List.set_cons_zero, List.set_cons_succ]
                  refine wpAnyH_take (i := 13) (v := ?zv7x13) rfl (by kernel_rfl) (by kernel_rfl) (by kernel_rfl) (fun _ _ _ h => h) (Or.inl ⟨by rfl, ?zy7x13⟩) (by assumption) ?zr7x13
                  case zy7x13 => (intro w hSw; (try dsimp only at hSw); (try simp only [List.getElem_toArray, List.getElem_cons_zero, List.getElem_cons_succ]); go_simp; first | done | with_reducible rfl)
                  simp only [Act.put, List.getElem_toArray, List.getElem_cons_zero, List.getElem_cons_succ, List.setIfInBounds_toArray, List.set_cons_zero, List.set_cons_succ]
                  refine wpAnyH_take (i := 14) (v := ?zv7x14) rfl (by kernel_rfl) (by kernel_rfl) (by kernel_rfl) (fun _ _ _ h => h) (Or.inl ⟨by rfl, ?zy7x14⟩) (by assumption) ?zr7x14
                  case zy7x14 => (intro w hSw; (try dsimp only at hSw); (try simp only [List.getElem_toArray, List.getElem_cons_zero, List.getElem_cons_succ]); go_simp; first | done | with_reducible rfl)
                  simp only [Act.put, List.getElem_toArray, List.getElem_cons_zero, List.getElem_cons_succ, List.setIfInBounds_toArray, List.set_cons_zero, List.set_cons_succ]
                  refine wpAnyH_take (i := 15) (v := ?zv7x15) rfl (by kernel_rfl) (by kernel_rfl) (by kernel_rfl) (fun _ _ _ h => h) (Or.inl ⟨by rfl, ?zy7x15⟩) (by assumption) ?zr7x15
                  case zy7x15 => (intro w hSw; (try dsimp only at hSw); (try simp only [List.getElem_toArray, List.getElem_cons_zero, List.getElem_cons_succ]); go_simp; first | done | with_reducible rfl)
                  simp only [Act.put, List.getElem_toArray, List.getElem_cons_zero, List.getElem_cons_succ, List.setIfInBounds_toArray, List.set_cons_zero, List.set_cons_succ]
                  refine wpAnyH_take (i := 16) (v := ?zv7x16) rfl (by kernel_rfl) (by kernel_rfl) (by kernel_rfl) (fun _ _ _ h => h) (Or.inl ⟨by rfl, ?zy7x16⟩) (by assumption) ?zr7x16
                  case zy7x16 => (intro w hSw; (try dsimp only at hSw); (try simp only [List.getElem_toArray, List.getElem_cons_zero, List.getElem_cons_succ]); go_simp; first | done | with_reducible rfl)
                  simp only [Act.put, List.getElem_toArray, List.getElem_cons_zero, List.getElem_cons_succ, List.setIfInBounds_toArray, List.set_cons_zero, List.set_cons_succ]
                  refine wpAnyH_take (i := 17) (v := ?zv7x17) rfl (by kernel_rfl) (by kernel_rfl) (by kernel_rfl) (fun _ _ _ h => h) (Or.inl ⟨by rfl, ?zy7x17⟩) (by assumption) ?zr7x17
                  case zy7x17 => (intro w hSw; (try dsimp only at hSw); (try simp only [List.getElem_toArray, List.getElem_cons_zero, List.getElem_cons_succ]); go_simp; first | done | with_reducible rfl)
                  simp only [Act.put, List.getElem_toArray, List.getElem_cons_zero, List.getElem_cons_succ, List.setIfInBounds_toArray, List.set_cons_zero, List.set_cons_succ]
                  refine wpAnyH_take (i := 18) (v := ?zv7x18) rfl (by kernel_rfl) (by kernel_rfl) (by kernel_rfl) (fun _ _ _ h => h) (Or.inl ⟨by rfl, ?zy7x18⟩) (by assumption) ?zr7x18
                  case zy7x18 => (intro w hSw; (try dsimp only at hSw); (try simp only [List.getElem_toArray, List.getElem_cons_zero, List.getElem_cons_succ]); go_simp; first | done | with_reducible rfl)
                  simp only [Act.put, List.getElem_toArray, List.getElem_cons_zero, List.getElem_cons_succ, List.setIfInBounds_toArray, List.set_cons_zero, List.set_cons_succ]
                  refine wpAnyH_ready (rs := [19]) (by kernel_rfl) (by simp) ?_
                  refine AllReadyH.cons rfl (fun K hK => ?_) AllReadyH.nil
                  try simp only [List.getElem_toArray, List.getElem_cons_zero, List.getElem_cons_succ]
                  go_simp
                  refine (C2.out _ (bel.trans ((up.out _ B0).mono bel.size))).mono ?_
                  rintro e W1 ⟨rfl, b1⟩
                  have B1 := B0.trans (b1.mono B0.size)
                  have hS1 := cs.out _ B1
                  refine hK.out _ _ hS1 (fun hHeld1 => ?_)
                  clear hK K
                  try simp only [Act.put, List.getElem_toArray, List.getElem_cons_zero, List.getElem_cons_succ, List.setIfInBounds_toArray, List.set_cons_zero, List.set_cons_succ]
                  refine wpAnyH_take (i := 20) (v := ?zv7x20) rfl (by kernel_rfl) (by kernel_rfl) (by kernel_rfl) (fun _ _ _ h => h) (Or.inl ⟨by rfl, ?zy7x20⟩) (by assumption) ?zr7x20
                  case zy7x20 => (intro w hSw; (try dsimp only at hSw); (try simp only [List.getElem_toArray, List.getElem_cons_zero, List.getElem_cons_succ]); go_simp; first | done | with_reducible rfl)
                  simp only [Act.put, List.getElem_toArray, List.getElem_cons_zero, List.getElem_cons_succ, List.setIfInBounds_toArray, List.set_cons_zero, List.set_cons_succ]
                  refine wpAnyH_take (i := 21) (v := ?zv7x21) rfl (by kernel_rfl) (by kernel_rfl) (by kernel_rfl) (fun _ _ _ h => h) (Or.inl ⟨by rfl, ?zy7x21⟩) (by assumption) ?zr7x21
                  case zy7x21 => (intro w hSw; (try dsimp only at hSw); (try simp only [List.getElem_toArray, List.getElem_cons_zero, List.getElem_cons_succ]); go_simp; first | done | with_reducible rfl)
                  simp only [Act.put, List.getElem_toArray, List.getElem_cons_zero, List.getElem_cons_succ, List.setIfInBounds_toArray, List.set_cons_zero, List.set_cons_succ]
                  refine wpAnyH_take (i := 22) (v := ?zv7x22) rfl (by kernel_rfl) (by kernel_rfl) (by kernel_rfl) (fun _ _ _ h => h) (Or.inl ⟨by rfl, ?zy7x22⟩) (by assumption) ?zr7x22
                  case zy7x22 => (intro w hSw; (try dsimp only at hSw); (try simp only [List.getElem_toArray, List.getElem_cons_zero, List.getElem_cons_succ]); go_simp; first | done | with_reducible rfl)
                  simp only [Act.put, List.getElem_toArray, List.getElem_cons_zero, List.getElem_cons_succ, List.setIfInBounds_toArray, List.set_cons_zero, List.set_cons_succ]
                  refine wpAnyH_take (i := 23) (v := ?zv7x23) rfl (by kernel_rfl) (by kernel_rfl) (by kernel_rfl) (fun _ _ _ h => h) (Or.inl ⟨by rfl, ?zy7x23⟩) (by assumption) ?zr7x23
                  case zy7x23 => (intro w hSw; (try dsimp only at hSw); (try simp only [List.getElem_toArray, List.getElem_cons_zero, List.getElem_cons_succ]); go_simp; first | done | with_reducible rfl)
                  simp only [Act.put, List.getElem_toArray, List.getElem_cons_zero, List.getElem_cons_succ, List.setIfInBounds_toArray, List.set_cons_zero, List.set_cons_succ]
                  refine wpAnyH_take (i := 24) (v := ?zv7x24) rfl (by kernel_rfl) (by kernel_rfl) (by kernel_rfl) (fun _ _ _ h => h) (Or.inl ⟨by rfl, ?zy7x24⟩) (by assumption) ?zr7x24
                  case zy7x24 => (intro w hSw; (try dsimp only at hSw); (try simp only [List.getElem_toArray, List.getElem_cons_zero, List.getElem_cons_succ]); go_simp; first | done | with_reducible rfl)
                  simp only [Act.put, List.getElem_toArray, List.getElem_cons_zero, List.getElem_cons_succ, List.setIfInBounds_toArray, List.set_cons_zero, List.set_cons_succ]
                  refine wpAnyH_take (i := 25) (v := ?zv7x25) rfl (by kernel_rfl) (by kernel_rfl) (by kernel_rfl) (fun _ _ _ h => h) (Or.inl ⟨by rfl, ?zy7x25⟩) (by assumption) ?zr7x25
                  case zy7x25 => (intro w hSw; (try dsimp only at hSw); (try simp only [List.getElem_toArray, List.getElem_cons_zero, List.getElem_cons_succ]); go_simp; first | done | with_reducible rfl)
                  simp only [Act.put, List.getElem_toArray, List.getElem_cons_zero, List.getElem_cons_succ, List.setIfInBounds_toArray, List.set_cons_zero, List.set_cons_succ]
                  refine wpAnyH_ready (rs := [26]) (by kernel_rfl) (by simp) ?_
                  refine AllReadyH.cons rfl (fun K hK => ?_) AllReadyH.nil
                  try simp only [List.getElem_toArray, List.getElem_cons_zero, List.getElem_cons_succ]
                  go_simp
                  refine (C3.out _ (bel.trans ((up.out _ B1).mono bel.size))).mono ?_
                  rintro e W2 ⟨rfl, b2⟩
                  have B2 := B1.trans (b2.mono B1.size)
                  have hS2 := cs.out _ B2
                  refine hK.out _ _ hS2 (fun hHeld2 => ?_)
                  clear hK K
                  try simp only [Act.put, List.getElem_toArray, List.getElem_cons_zero, List.getElem_cons_succ, List.setIfInBounds_toArray, List.set_cons_zero, List.set_cons_succ]
                  refine wpAnyH_take (i := 27) (v := ?zv7x27) rfl (by kernel_rfl) (by kernel_rfl) (by kernel_rfl) (fun _ _ _ h => h) (Or.inl ⟨by rfl, ?zy7x27⟩) (by assumption) ?zr7x27
                  case zy7x27 => (intro w hSw; (try dsimp only at hSw); (try simp only [List.getElem_toArray, List.getElem_cons_zero, List.getElem_cons_succ]); go_simp; first | done | with_reducible rfl)
                  simp only [Act.put, List.getElem_toArray, List.getElem_cons_zero, List.getElem_cons_succ, List.setIfInBounds_toArray, List.set_cons_zero, List.set_cons_succ]
                  refine wpAnyH_take (i := 28) (v := ?zv7x28) rfl (by kernel_rfl) (by kernel_rfl) (by kernel_rfl) (fun _ _ _ h => h) (Or.inl ⟨by rfl, ?zy7x28⟩) (by assumption) ?zr7x28
                  case zy7x28 => (intro w hSw; (try dsimp only at hSw); (try simp only [List.getElem_toArray, List.getElem_cons_zero, List.getElem_cons_succ]); go_simp; first | done | with_reducible rfl)
                  simp only [Act.put, List.getElem_toArray, List.getElem_cons_zero, List.getElem_cons_succ, List.setIfInBounds_toArray, List.set_cons_zero, List.set_cons_succ]
                  refine wpAnyH_take (i := 29) (v := ?zv7x29) rfl (by kernel_rfl) (by kernel_rfl) (by kernel_rfl) (fun _ _ _ h => h) (Or.inl ⟨by rfl, ?zy7x29⟩) (by assumption) ?zr7x29
                  case zy7x29 => (intro w hSw; (try dsimp only at hSw); (try simp only [List.getElem_toArray, List.getElem_cons_zero, List.getElem_cons_succ]); go_simp; first | done | with_reducible rfl)
                  simp only [Act.put, List.getElem_toArray, List.getElem_cons_zero, List.getElem_cons_succ, List.setIfInBounds_toArray, List.set_cons_zero, List.set_cons_succ]
                  refine wpAnyH_take (i := 30) (v := ?zv7x30) rfl (by kernel_rfl) (by kernel_rfl) (by kernel_rfl) (fun _ _ _ h => h) (Or.inl ⟨by rfl, ?zy7x30⟩) (by assumption) ?zr7x30
                  case zy7x30 => (intro w hSw; (try dsimp only at hSw); (try simp only [List.getElem_toArray, List.getElem_cons_zero, List.getElem_cons_succ]); go_simp; first | done | with_reducible rfl)
                  simp only [Act.put, List.getElem_toArray, List.getElem_cons_zero, List.getElem_cons_succ, List.setIfInBounds_toArray, List.set_cons_zero, List.set_cons_succ]
                  refine wpAnyH_take (i := 31) (v := ?zv7x31) rfl (by kernel_rfl) (by kernel_rfl) (by kernel_rfl) (fun _ _ _ h => h) (Or.inl ⟨by rfl, ?zy7x31⟩) (by assumption) ?zr7x31
                  case zy7x31 => (intro w hSw; (try dsimp only at hSw); (try simp only [List.getElem_toArray, List.getElem_cons_zero, List.getElem_cons_succ]); go_simp; first | done | with_reducible rfl)
                  simp only [Act.put, List.getElem_toArray, List.getElem_cons_zero, List.getElem_cons_succ, List.setIfInBounds_toArray, List.set_cons_zero, List.set_cons_succ]
                  refine wpAnyH_take (i := 32) (v := ?zv7x32) rfl (by kernel_rfl) (by kernel_rfl) (by kernel_rfl) (fun _ _ _ h => h) (Or.inl ⟨by rfl, ?zy7x32⟩) (by assumption) ?zr7x32
                  case zy7x32 => (intro w hSw; (try dsimp only at hSw); (try simp only [List.getElem_toArray, List.getElem_cons_zero, List.getElem_cons_succ]); go_simp; first | done | with_reducible rfl)
                  simp only [Act.put, List.getElem_toArray, List.getElem_cons_zero, List.getElem_cons_succ, List.setIfInBounds_toArray, List.set_cons_zero, List.set_cons_succ]
                  refine wpAnyH_take (i := 33) (v := ?zv7x33) rfl (by kernel_rfl) (by kernel_rfl) (by kernel_rfl) (fun _ _ _ h => h) (Or.inl ⟨by rfl, ?zy7x33⟩) (by assumption) ?zr7x33
                  case zy7x33 => (intro w hSw; (try dsimp only at hSw); (try simp only [List.getElem_toArray, List.getElem_cons_zero, List.getElem_cons_succ]); go_simp; first | done | with_reducible rfl)
                  simp only [Act.put, List.getElem_toArray, List.getElem_cons_zero, List.getElem_cons_succ, List.setIfInBounds_toArray, List.set_cons_zero, List.set_cons_succ]
                  refine wpAnyH_take (i := 34) (v := ?zv7x34) rfl (by kernel_rfl) (by kernel_rfl) (by kernel_rfl) (fun _ _ _ h => h) (Or.inl ⟨by rfl, ?zy7x34⟩) (by assumption) ?zr7x34
                  case zy7x34 => (intro w hSw; (try dsimp only at hSw); (try simp only [List.getElem_toArray, List.getElem_cons_zero, List.getElem_cons_succ]); go_simp; first | done | with_reducible rfl)
                  simp only [Act.put, List.getElem_toArray, List.getElem_cons_zero, List.getElem_cons_succ, List.setIfInBounds_toArray, List.set_cons_zero, List.set_cons_succ]
                  refine wpAnyH_take (i := 35) (v := ?zv7x35) rfl (by kernel_rfl) (by kernel_rfl) (by kernel_rfl) (fun _ _ _ h => h) (Or.inl ⟨by rfl, ?zy7x35⟩) (by assumption) ?zr7x35
                  case zy7x35 => (intro w hSw; (try dsimp only at hSw); (try simp only [List.getElem_toArray, List.getElem_cons_zero, List.getElem_cons_succ]); go_simp; first | done | with_reducible rfl)
                  simp only [Act.put, List.getElem_toArray, List.getElem_cons_zero, List.getElem_cons_succ, List.setIfInBounds_toArray, List.set_cons_zero, List.set_cons_succ]
                  refine wpAnyH_take (i := 36) (v := ?zv7x36) rfl (by kernel_rfl) (by kernel_rfl) (by kernel_rfl) (fun _ _ _ h => h) (Or.inl ⟨by rfl, ?zy7x36⟩) (by assumption) ?zr7x36
                  case zy7x36 => (intro w hSw; (try dsimp only at hSw); (try simp only [List.getElem_toArray, List.getElem_cons_zero, List.getElem_cons_succ]); go_simp; first | done | with_reducible rfl)
                  simp only [Act.put, List.getElem_toArray, List.getElem_cons_zero, List.getElem_cons_succ, List.setIfInBounds_toArray, List.set_cons_zero, List.set_cons_succ]
                  refine wpAnyH_take (i := 37) (v := ?zv7x37) rfl (by kernel_rfl) (by kernel_rfl) (by kernel_rfl) (fun _ _ _ h => h) (Or.inl ⟨by rfl, ?zy7x37⟩) (by assumption) ?zr7x37
                  case zy7x37 => (intro w hSw; (try dsimp only at hSw); (try simp only [List.getElem_toArray, List.getElem_cons_zero, List.getElem_cons_succ]); go_simp; first | done | with_reducible rfl)
                  simp only [Act.put, List.getElem_toArray, List.getElem_cons_zero, List.getElem_cons_succ, List.setIfInBounds_toArray, List.set_cons_zero, List.set_cons_succ]
                  refine wpAnyH_take (i := 38) (v := ?zv7x38) rfl (by kernel_rfl) (by kernel_rfl) (by kernel_rfl) (fun _ _ _ h => h) (Or.inl ⟨by rfl, ?zy7x38⟩) (by assumption) ?zr7x38
                  case zy7x38 => (intro w hSw; (try dsimp only at hSw); (try simp only [List.getElem_toArray, List.getElem_cons_zero, List.getElem_cons_succ]); go_simp; first | done | with_reducible rfl)
                  simp only [Act.put, List.getElem_toArray, List.getElem_cons_zero, List.getElem_cons_succ, List.setIfInBounds_toArray, List.set_cons_zero, List.set_cons_succ]
                  refine wpAnyH_take (i := 39) (v := ?zv7x39) rfl (by kernel_rfl) (by kernel_rfl) (by kernel_rfl) (fun _ _ _ h => h) (Or.inl ⟨by rfl, ?zy7x39⟩) (by assumption) ?zr7x39
                  case zy7x39 => (intro w hSw; (try dsimp only at hSw); (try simp only [List.getElem_toArray, List.getElem_cons_zero, List.getElem_cons_succ]); go_simp; first | done | with_reducible rfl)
                  simp only [Act.put, List.getElem_toArray, List.getElem_cons_zero, List.getElem_cons_succ, List.setIfInBounds_toArray, List.set_cons_zero, List.set_cons_succ]
                  refine wpAnyH_done (by kernel_rfl) ?_ _
                  refine NoPanic.normal ?_
                  obtain ⟨⟨_, _, _, _⟩, ⟨_, _, _, _⟩⟩ := cs.out _ B2
                  obtain ⟨_, _, _, _⟩ := kp.out _ (bel0.trans ((up.out _ B2).mono sz))
                  go_wp2
                  go_ret
                  exact ⟨ret_b (by first | rw [Bool.true_and, HR.out] | rw [HR.out]), (bel.trans ((up.out _ B2).mono bel.size))⟩
                | false =>
                  have HP : Hid (elB l.length t 1 y = (if (y.t.toList == [42]) = true then decide (l.length ≤ 1) && !(t.toList == []) && ((1 : Int) == 0) else propT false y.t.data.toList && (!(t.toList == []) || idT false y.t))) := by show _ = _; rw [HP2.out, hzt]; rfl
                  clear HP2
                  go_wp2_with fail
                  obtain ⟨WP, hWP⟩ : ∃ W, wr.alloc (Obj.cells #[Value.int IntKind.i64 65, Value.string y.t, Value.int IntKind.i64 0, Value.slice (some ⟨bz, oz, none⟩) 1 ck] 24) = W := ⟨_, rfl⟩
                  have cP : Below wr.heap.size wr WP := by rw [← hWP]; exact bel_a _ _
                  have mP : WP.heap[wr.heap.size]? = some (.cells #[Value.int IntKind.i64 65, Value.string y.t, Value.int IntKind.i64 0, Value.slice (some ⟨bz, oz, none⟩) 1 ck] 24 (0, 0)) := by rw [← hWP]; exact heap_alloc_new _ _
                  rw [hWP]
                  clear hWP
                  have lP : wr.heap.size < WP.heap.size := (Array.getElem?_eq_some_iff.1 mP).1
                  have up : Hid (∀ W', Below WP.heap.size WP W' → Below wr.heap.size wr W') := fun W' b => cP.trans (b.mono cP.size)
                  have cs : Hid (∀ W', Below WP.heap.size WP W' → (W'.cell? ⟨wr.heap.size, 0, none⟩ = some (.int .i64 65) ∧ W'.cell? ⟨wr.heap.size, 1, none⟩ = some (.string y.t) ∧ W'.cell? ⟨wr.heap.size, 2, none⟩ = some (.int .i64 0) ∧ W'.cell? ⟨wr.heap.size, 3, none⟩ = some (.slice (some ⟨bz, oz, none⟩) 1 ck)) ∧ (W'.cell? ⟨bz, oz, none⟩ = some (.int .i64 z.k) ∧ W'.cell? ⟨bz, oz + 1, none⟩ = some (.string z.t) ∧ W'.cell? ⟨bz, oz + 2, none⟩ = some (.int .i64 z.n) ∧ W'.cell? ⟨bz, oz + 3, none⟩ = some (.slice az z.ks.length cz))) := fun W' b => ⟨(box4 ((b.block _ lP).trans mP)).1, HZ.out _ (bel.trans ((up.out _ b).mono bel.size))⟩
                  clear mP
                  have B0 : Below WP.heap.size WP WP.drew := (Below.refl _ _).drew
                  have hS0 := cs.out _ B0
                  refine wp_region_noPanic ?_
                  refine wp_region_held_drew (S := fun W' => (W'.cell? ⟨wr.heap.size, 0, none⟩ = some (.int .i64 65) ∧ W'.cell? ⟨wr.heap.size, 1, none⟩ = some (.string y.t) ∧ W'.cell? ⟨wr.heap.size, 2, none⟩ = some (.int .i64 0) ∧ W'.cell? ⟨wr.heap.size, 3, none⟩ = some (.slice (some ⟨bz, oz, none⟩) 1 ck)) ∧ (W'.cell? ⟨bz, oz, none⟩ = some (.int .i64 z.k) ∧ W'.cell? ⟨bz, oz + 1, none⟩ = some (.string z.t) ∧ W'.cell? ⟨bz, oz + 2, none⟩ = some (.int .i64 z.n) ∧ W'.cell? ⟨bz, oz + 3, none⟩ = some (.slice az z.ks.length cz))) (by kernel_rfl) hS0 (fun hHeld => ?_)
                  refine wpAnyH_take (i := 0) (v := ?zv8x0) rfl (by kernel_rfl) (by kernel_rfl) (by kernel_rfl) (fun _ _ _ h => h) (Or.inl ⟨by rfl, ?zy8x0⟩) (by assumption) ?zr8x0
                  case zy8x0 => (intro w hSw; (try dsimp only at hSw); (try simp only [List.getElem_toArray, List.getElem_cons_zero, List.getElem_cons_succ]); go_simp; first | done | with_reducible rfl)
                  simp only [Act.put, List.getElem_toArray, List.getElem_cons_zero, List.getElem_cons_succ, List.setIfInBounds_toArray, List.set_cons_zero, List.set_cons_succ]
                  refine wpAnyH_take (i := 1) (v := ?zv8x1) rfl (by kernel_rfl) (by kernel_rfl) (by kernel_rfl) (fun _ _ _ h => h) (Or.inl ⟨by rfl, ?zy8x1⟩) (by assumption) ?zr8x1
                  case zy8x1 => (intro w hSw; (try dsimp only at hSw); (try simp only [List.getElem_toArray, List.getElem_cons_zero, List.getElem_cons_succ]); go_simp; first | done | with_reducible rfl)
                  simp only [Act.put, List.getElem_toArray, List.getElem_cons_zero, List.getElem_cons_succ, List.setIfInBounds_toArray, List.set_cons_zero, List.set_cons_succ]
                  refine wpAnyH_take (i := 2) (v := ?zv8x2) rfl (by kernel_rfl) (by kernel_rfl) (by kernel_rfl) (fun _ _ _ h => h) (Or.inl ⟨by rfl, ?zy8x2⟩) (by assumption) ?zr8x2
                  case zy8x2 => (intro w hSw; (try dsimp only at hSw); (try simp only [List.getElem_toArray, List.getElem_cons_zero, List.getElem_cons_succ]); go_simp; first | done | with_reducible rfl)
                  simp only [Act.put, List.getElem_toArray, List.getElem_cons_zero, List.getElem_cons_succ, List.setIfInBounds_toArray, List.set_cons_zero, List.set_cons_succ]
                  refine wpAnyH_take (i := 3) (v := ?zv8x3) rfl (by kernel_rfl) (by kernel_rfl) (by kernel_rfl) (fun _ _ _ h => h) (Or.inl ⟨by rfl, ?zy8x3⟩) (by assumption) ?zr8x3
                  case zy8x3 => (intro w hSw; (try dsimp only at hSw); (try simp only [List.getElem_toArray, List.getElem_cons_zero, List.getElem_cons_succ]); go_simp; first | done | with_reducible rfl)
                  simp only [Act.put, List.getElem_toArray, List.getElem_cons_zero, List.getElem_cons_succ, List.setIfInBounds_toArray, List.set_cons_zero, List.set_cons_succ]
                  refine wpAnyH_take (i := 4) (v := ?zv8x4) rfl (by kernel_rfl) (by kernel_rfl) (by kernel_rfl) (fun _ _ _ h => h) (Or.inl ⟨by rfl, ?zy8x4⟩) (by assumption) ?zr8x4
                  case zy8x4 => (intro w hSw; (try dsimp only at hSw); (try simp only [List.getElem_toArray, List.getElem_cons_zero, List.getElem_cons_succ]); go_simp; first | done | with_reducible rfl)
                  simp only [Act.put, List.getElem_toArray, List.getElem_cons_zero, List.getElem_cons_succ, List.setIfInBounds_toArray, List.set_cons_zero, List.set_cons_succ]
                  refine wpAnyH_take (i := 5) (v := ?zv8x5) rfl (by kernel_rfl) (by kernel_rfl) (by kernel_rfl) (fun _ _ _ h => h) (Or.inl ⟨by rfl, ?zy8x5⟩) (by assumption) ?zr8x5
                  case zy8x5 => (intro w hSw; (try dsimp only at hSw); (try simp only [List.getElem_toArray, List.getElem_cons_zero, List.getElem_cons_succ]); go_simp; first | done | with_reducible rfl)
                  simp only [Act.put, List.getElem_toArray, List.getElem_cons_zero, List.getElem_cons_succ, List.setIfInBounds_toArray, List.set_cons_zero, List.set_cons_succ]
                  refine wpAnyH_take (i := 6) (v := ?zv8x6) rfl (by kernel_rfl) (by kernel_rfl) (by kernel_rfl) (fun _ _ _ h => h) (Or.inl ⟨by rfl, ?zy8x6⟩) (by assumption) ?zr8x6
                  case zy8x6 => (intro w hSw; (try dsimp only at hSw); (try simp only [List.getElem_toArray, List.getElem_cons_zero, List.getElem_cons_succ]); go_simp; first | done | with_reducible rfl)
                  simp only [Act.put, List.getElem_toArray, List.getElem_cons_zero, List.getElem_cons_succ, List.setIfInBounds_toArray, List.set_cons_zero, List.set_cons_succ]
                  refine wpAnyH_take (i := 7) (v := ?zv8x7) rfl (by kernel_rfl) (by kernel_rfl) (by kernel_rfl) (fun _ _ _ h => h) (Or.inl ⟨by rfl, ?zy8x7⟩) (by assumption) ?zr8x7
                  case zy8x7 => (intro w hSw; (try dsimp only at hSw); (try simp only [List.getElem_toArray, List.getElem_cons_zero, List.getElem_cons_succ]); go_simp; first | done | with_reducible rfl)
                  simp only [Act.put, List.getElem_toArray, List.getElem_cons_zero, List.getElem_cons_succ, List.setIfInBounds_toArray, List.set_cons_zero, List.set_cons_succ]
                  refine wpAnyH_take (i := 8) (v := ?zv8x8) rfl (by kernel_rfl) (by kernel_rfl) (by kernel_rfl) (fun _ _ _ h => h) (Or.inl ⟨by rfl, ?zy8x8⟩) (by assumption) ?zr8x8
                  case zy8x8 => (intro w hSw; (try dsimp only at hSw); (try simp only [List.getElem_toArray, List.getElem_cons_zero, List.getElem_cons_succ]); go_simp; first | done | with_reducible rfl)
                  simp only [Act.put, List.getElem_toArray, List.getElem_cons_zero, List.getElem_cons_succ, List.setIfInBounds_toArray, List.set_cons_zero, List.set_cons_succ]
                  refine wpAnyH_take (i := 9) (v := ?zv8x9) rfl (by kernel_rfl) (by kernel_rfl) (by kernel_rfl) (fun _ _ _ h => h) (Or.inl ⟨by rfl, ?zy8x9⟩) (by assumption) ?zr8x9
                  case zy8x9 => (intro w hSw; (try dsimp only at hSw); (try simp only [List.getElem_toArray, List.getElem_cons_zero, List.getElem_cons_succ]); go_simp; first | done | with_reducible rfl)
                  simp only [Act.put, List.getElem_toArray, List.getElem_cons_zero, List.getElem_cons_succ, List.setIfInBounds_toArray, List.set_cons_zero, List.set_cons_succ]
                  refine wpAnyH_take (i := 10) (v := ?zv8x10) rfl (by kernel_rfl) (by kernel_rfl) (by kernel_rfl) (fun _ _ _ h => h) (Or.inl ⟨by rfl, ?zy8x10⟩) (by assumption) ?zr8x10
                  case zy8x10 => (intro w hSw; (try dsimp only at hSw); (try simp only [List.getElem_toArray, List.getElem_cons_zero, List.getElem_cons_succ]); go_simp; first | done | with_reducible rfl)
                  simp only [Act.put, List.getElem_toArray, List.getElem_cons_zero, List.getElem_cons_succ, List.setIfInBounds_toArray, List.set_cons_zero, List.set_cons_succ]
                  refine wpAnyH_take (i := 11) (v := ?zv8x11) rfl (by kernel_rfl) (by kernel_rfl) (by kernel_rfl) (fun _ _ _ h => h) (Or.inl ⟨by rfl, ?zy8x11⟩) (by assumption) ?zr8x11
                  case zy8x11 => (intro w hSw; (try dsimp only at hSw); (try simp only [List.getElem_toArray, List.getElem_cons_zero, List.getElem_cons_succ]); go_simp; first | done | with_reducible rfl)
                  simp only [Act.put, List.getElem_toArray, List.getElem_cons_zero, List.getElem_cons_succ, List.setIfInBounds_toArray, List.set_cons_zero, List.set_cons_succ]
                  refine wpAnyH_take (i := 12) (v := ?zv8x12) rfl (by kernel_rfl) (by kernel_rfl) (by kernel_rfl) (fun _ _ _ h => h) (Or.inl ⟨by rfl, ?zy8x12⟩) (by assumption) ?zr8x12
                  case zy8x12 => (intro w hSw; (try dsimp only at hSw); (try simp only [List.getElem_toArray, List.getElem_cons_zero, List.getElem_cons_succ]); go_simp; first | done | with_reducible rfl)
                  simp only [Act.put, List.getElem_toArray, List.getElem_cons_zero, List.getElem_cons_succ, List.setIfInBounds_toArray, List.set_cons_zero, List.set_cons_succ]
                  refine wpAnyH_take (i := 13) (v := ?zv8x13) rfl (by kernel_rfl) (by kernel_rfl) (by kernel_rfl) (fun _ _ _ h => h) (Or.inl ⟨by rfl, ?zy8x13⟩) (by assumption) ?zr8x13
                  case zy8x13 => (intro w hSw; (try dsimp only at hSw); (try simp only [List.getElem_toArray, List.getElem_cons_zero, List.getElem_cons_succ]); go_simp; first | done | with_reducible rfl)
                  simp only [Act.put, List.getElem_toArray, List.getElem_cons_zero, List.getElem_cons_succ, List.setIfInBounds_toArray, List.set_cons_zero, List.set_cons_succ]
                  refine wpAnyH_take (i := 14) (v := ?zv8x14) rfl (by kernel_rfl) (by kernel_rfl) (by kernel_rfl) (fun _ _ _ h => h) (Or.inl ⟨by rfl, ?zy8x14⟩) (by assumption) ?zr8x14
                  case zy8x14 => (intro w hSw; (try dsimp only at hSw); (try simp only [List.getElem_toArray, List.getElem_cons_zero, List.getElem_cons_succ]); go_simp; first | done | with_reducible rfl)
                  simp only [Act.put, List.getElem_toArray, List.getElem_cons_zero, List.getElem_cons_succ, List.setIfInBounds_toArray, List.set_cons_zero, List.set_cons_succ]
                  refine wpAnyH_take (i := 15) (v := ?zv8x15) rfl (by kernel_rfl) (by kernel_rfl) (by kernel_rfl) (fun _ _ _ h => h) (Or.inl ⟨by rfl, ?zy8x15⟩) (by assumption) ?zr8x15
                  case zy8x15 => (intro w hSw; (try dsimp only at hSw); (try simp only [List.getElem_toArray, List.getElem_cons_zero, List.getElem_cons_succ]); go_simp; first | done | with_reducible rfl)
                  simp only [Act.put, List.getElem_toArray, List.getElem_cons_zero, List.getElem_cons_succ, List.setIfInBounds_toArray, List.set_cons_zero, List.set_cons_succ]
                  refine wpAnyH_take (i := 16) (v := ?zv8x16) rfl (by kernel_rfl) (by kernel_rfl) (by kernel_rfl) (fun _ _ _ h => h) (Or.inl ⟨by rfl, ?zy8x16⟩) (by assumption) ?zr8x16
                  case zy8x16 => (intro w hSw; (try dsimp only at hSw); (try simp only [List.getElem_toArray, List.getElem_cons_zero, List.getElem_cons_succ]); go_simp; first | done | with_reducible rfl)
                  simp only [Act.put, List.getElem_toArray, List.getElem_cons_zero, List.getElem_cons_succ, List.setIfInBounds_toArray, List.set_cons_zero, List.set_cons_succ]
                  refine wpAnyH_take (i := 17) (v := ?zv8x17) rfl (by kernel_rfl) (by kernel_rfl) (by kernel_rfl) (fun _ _ _ h => h) (Or.inl ⟨by rfl, ?zy8x17⟩) (by assumption) ?zr8x17
                  case zy8x17 => (intro w hSw; (try dsimp only at hSw); (try simp only [List.getElem_toArray, List.getElem_cons_zero, List.getElem_cons_succ]); go_simp; first | done | with_reducible rfl)
                  simp only [Act.put, List.getElem_toArray, List.getElem_cons_zero, List.getElem_cons_succ, List.setIfInBounds_toArray, List.set_cons_zero, List.set_cons_succ]
                  refine wpAnyH_take (i := 18) (v := ?zv8x18) rfl (by kernel_rfl) (by kernel_rfl) (by kernel_rfl) (fun _ _ _ h => h) (Or.inl ⟨by rfl, ?zy8x18⟩) (by assumption) ?zr8x18
                  case zy8x18 => (intro w hSw; (try dsimp only at hSw); (try simp only [List.getElem_toArray, List.getElem_cons_zero, List.getElem_cons_succ]); go_simp; first | done | with_reducible rfl)
                  simp only [Act.put, List.getElem_toArray, List.getElem_cons_zero, List.getElem_cons_succ, List.setIfInBounds_toArray, List.set_cons_zero, List.set_cons_succ]
                  refine wpAnyH_ready (rs := [19]) (by kernel_rfl) (by simp) ?_
                  refine AllReadyH.cons rfl (fun K hK => ?_) AllReadyH.nil
                  try simp only [List.getElem_toArray, List.getElem_cons_zero, List.getElem_cons_succ]
                  go_simp
                  refine (C2.out _ (bel.trans ((up.out _ B0).mono bel.size))).mono ?_
                  rintro e W1 ⟨rfl, b1⟩
                  have B1 := B0.trans (b1.mono B0.size)
                  have hS1 := cs.out _ B1
                  refine hK.out _ _ hS1 (fun hHeld1 => ?_)
                  clear hK K
                  try simp only [Act.put, List.getElem_toArray, List.getElem_cons_zero, List.getElem_cons_succ, List.setIfInBounds_toArray, List.set_cons_zero, List.set_cons_succ]
                  refine wpAnyH_take (i := 20) (v := ?zv8x20) rfl (by kernel_rfl) (by kernel_rfl) (by kernel_rfl) (fun _ _ _ h => h) (Or.inl ⟨by rfl, ?zy8x20⟩) (by assumption) ?zr8x20
                  case zy8x20 => (intro w hSw; (try dsimp only at hSw); (try simp only [List.getElem_toArray, List.getElem_cons_zero, List.getElem_cons_succ]); go_simp; first | done | with_reducible rfl)
                  simp only [Act.put, List.getElem_toArray, List.getElem_cons_zero, List.getElem_cons_succ, List.setIfInBounds_toArray, List.set_cons_zero, List.set_cons_succ]
                  refine wpAnyH_take (i := 21) (v := ?zv8x21) rfl (by kernel_rfl) (by kernel_rfl) (by kernel_rfl) (fun _ _ _ h => h) (Or.inl ⟨by rfl, ?zy8x21⟩) (by assumption) ?zr8x21
                  case zy8x21 => (intro w hSw; (try dsimp only at hSw); (try simp only [List.getElem_toArray, List.getElem_cons_zero, List.getElem_cons_succ]); go_simp; first | done | with_reducible rfl)
                  simp only [Act.put, List.getElem_toArray, List.getElem_cons_zero, List.getElem_cons_succ, List.setIfInBounds_toArray, List.set_cons_zero, List.set_cons_succ]
                  refine wpAnyH_take (i := 22) (v := ?zv8x22) rfl (by kernel_rfl) (by kernel_rfl) (by kernel_rfl) (fun _ _ _ h => h) (Or.inl ⟨by rfl, ?zy8x22⟩) (by assumption) ?zr8x22
                  case zy8x22 => (intro w hSw; (try dsimp only at hSw); (try simp only [List.getElem_toArray, List.getElem_cons_zero, List.getElem_cons_succ]); go_simp; first | done | with_reducible rfl)
                  simp only [Act.put, List.getElem_toArray, List.getElem_cons_zero, List.getElem_cons_succ, List.setIfInBounds_toArray, List.set_cons_zero, List.set_cons_succ]
                  refine wpAnyH_take (i := 23) (v := ?zv8x23) rfl (by kernel_rfl) (by kernel_rfl) (by kernel_rfl) (fun _ _ _ h => h) (Or.inl ⟨by rfl, ?zy8x23⟩) (by assumption) ?zr8x23
                  case zy8x23 => (intro w hSw; (try dsimp only at hSw); (try simp only [List.getElem_toArray, List.getElem_cons_zero, List.getElem_cons_succ]); go_simp; first | done | with_reducible rfl)
                  simp only [Act.put, List.getElem_toArray, List.getElem_cons_zero, List.getElem_cons_succ, List.setIfInBounds_toArray, List.set_cons_zero, List.set_cons_succ]
                  refine wpAnyH_take (i := 24) (v := ?zv8x24) rfl (by kernel_rfl) (by kernel_rfl) (by kernel_rfl) (fun _ _ _ h => h) (Or.inl ⟨by rfl, ?zy8x24⟩) (by assumption) ?zr8x24
                  case zy8x24 => (intro w hSw; (try dsimp only at hSw); (try simp only [List.getElem_toArray, List.getElem_cons_zero, List.getElem_cons_succ]); go_simp; first | done | with_reducible rfl)
                  simp only [Act.put, List.getElem_toArray, List.getElem_cons_zero, List.getElem_cons_succ, List.setIfInBounds_toArray, List.set_cons_zero, List.set_cons_succ]
                  refine wpAnyH_take (i := 25) (v := ?zv8x25) rfl (by kernel_rfl) (by kernel_rfl) (by kernel_rfl) (fun _ _ _ h => h) (Or.inl ⟨by rfl, ?zy8x25⟩) (by assumption) ?zr8x25
                  case zy8x25 => (intro w hSw; (try dsimp only at hSw); (try simp only [List.getElem_toArray, List.getElem_cons_zero, List.getElem_cons_succ]); go_simp; first | done | with_reducible rfl)
                  simp only [Act.put, List.getElem_toArray, List.getElem_cons_zero, List.getElem_cons_succ, List.setIfInBounds_toArray, List.set_cons_zero, List.set_cons_succ]
                  refine wpAnyH_ready (rs := [26]) (by kernel_rfl) (by simp) ?_
                  refine AllReadyH.cons rfl (fun K hK => ?_) AllReadyH.nil
                  try simp only [List.getElem_toArray, List.getElem_cons_zero, List.getElem_cons_succ]
                  go_simp
                  refine (C3.out _ (bel.trans ((up.out _ B1).mono bel.size))).mono ?_
                  rintro e W2 ⟨rfl, b2⟩
                  have B2 := B1.trans (b2.mono B1.size)
                  have hS2 := cs.out _ B2
                  refine hK.out _ _ hS2 (fun hHeld2 => ?_)
                  clear hK K
                  try simp only [Act.put, List.getElem_toArray, List.getElem_cons_zero, List.getElem_cons_succ, List.setIfInBounds_toArray, List.set_cons_zero, List.set_cons_succ]
                  refine wpAnyH_take (i := 27) (v := ?zv8x27) rfl (by kernel_rfl) (by kernel_rfl) (by kernel_rfl) (fun _ _ _ h => h) (Or.inl ⟨by rfl, ?zy8x27⟩) (by assumption) ?zr8x27
                  case zy8x27 => (intro w hSw; (try dsimp only at hSw); (try simp only [List.getElem_toArray, List.getElem_cons_zero, List.getElem_cons_succ]); go_simp; first | done | with_reducible rfl)
                  simp only [Act.put, List.getElem_toArray, List.getElem_cons_zero, List.getElem_cons_succ, List.setIfInBounds_toArray, List.set_cons_zero, List.set_cons_succ]
                  refine wpAnyH_take (i := 28) (v := ?zv8x28) rfl (by kernel_rfl) (by kernel_rfl) (by kernel_rfl) (fun _ _ _ h => h) (Or.inl ⟨by rfl, ?zy8x28⟩) (by assumption) ?zr8x28
                  case zy8x28 => (intro w hSw; (try dsimp only at hSw); (try simp only [List.getElem_toArray, List.getElem_cons_zero, List.getElem_cons_succ]); go_simp; first | done | with_reducible rfl)
                  simp only [Act.put, List.getElem_toArray, List.getElem_cons_zero, List.getElem_cons_succ, List.setIfInBounds_toArray, List.set_cons_zero, List.set_cons_succ]
                  refine wpAnyH_take (i := 29) (v := ?zv8x29) rfl (by kernel_rfl) (by kernel_rfl) (by kernel_rfl) (fun _ _ _ h => h) (Or.inl ⟨by rfl, ?zy8x29⟩) (by assumption) ?zr8x29
                  case zy8x29 => (intro w hSw; (try dsimp only at hSw); (try simp only [List.getElem_toArray, List.getElem_cons_zero, List.getElem_cons_succ]); go_simp; first | done | with_reducible rfl)
                  simp only [Act.put, List.getElem_toArray, List.getElem_cons_zero, List.getElem_cons_succ, List.setIfInBounds_toArray, List.set_cons_zero, List.set_cons_succ]
                  refine wpAnyH_take (i := 30) (v := ?zv8x30) rfl (by kernel_rfl) (by kernel_rfl) (by kernel_rfl) (fun _ _ _ h => h) (Or.inl ⟨by rfl, ?zy8x30⟩) (by assumption) ?zr8x30
                  case zy8x30 => (intro w hSw; (try dsimp only at hSw); (try simp only [List.getElem_toArray, List.getElem_cons_zero, List.getElem_cons_succ]); go_simp; first | done | with_reducible rfl)
                  simp only [Act.put, List.getElem_toArray, List.getElem_cons_zero, List.getElem_cons_succ, List.setIfInBounds_toArray, List.set_cons_zero, List.set_cons_succ]
                  refine wpAnyH_take (i := 31) (v := ?zv8x31) rfl (by kernel_rfl) (by kernel_rfl) (by kernel_rfl) (fun _ _ _ h => h) (Or.inl ⟨by rfl, ?zy8x31⟩) (by assumption) ?zr8x31
                  case zy8x31 => (intro w hSw; (try dsimp only at hSw); (try simp only [List.getElem_toArray, List.getElem_cons_zero, List.getElem_cons_succ]); go_simp; first | done | with_reducible rfl)
                  simp only [Act.put, List.getElem_toArray, List.getElem_cons_zero, List.getElem_cons_succ, List.setIfInBounds_toArray, List.set_cons_zero, List.set_cons_succ]
                  refine wpAnyH_take (i := 32) (v := ?zv8x32) rfl (by kernel_rfl) (by kernel_rfl) (by kernel_rfl) (fun _ _ _ h => h) (Or.inl ⟨by rfl, ?zy8x32⟩) (by assumption) ?zr8x32
                  case zy8x32 => (intro w hSw; (try dsimp only at hSw); (try simp only [List.getElem_toArray, List.getElem_cons_zero, List.getElem_cons_succ]); go_simp; first | done | with_reducible rfl)
                  simp only [Act.put, List.getElem_toArray, List.getElem_cons_zero, List.getElem_cons_succ, List.setIfInBounds_toArray, List.set_cons_zero, List.set_cons_succ]
                  refine wpAnyH_take (i := 33) (v := ?zv8x33) rfl (by kernel_rfl) (by kernel_rfl) (by kernel_rfl) (fun _ _ _ h => h) (Or.inl ⟨by rfl, ?zy8x33⟩) (by assumption) ?zr8x33
                  case zy8x33 => (intro w hSw; (try dsimp only at hSw); (try simp only [List.getElem_toArray, List.getElem_cons_zero, List.getElem_cons_succ]); go_simp; first | done | with_reducible rfl)
                  simp only [Act.put, List.getElem_toArray, List.getElem_cons_zero, List.getElem_cons_succ, List.setIfInBounds_toArray, List.set_cons_zero, List.set_cons_succ]
                  refine wpAnyH_take (i := 34) (v := ?zv8x34) rfl (by kernel_rfl) (by kernel_rfl) (by kernel_rfl) (fun _ _ _ h => h) (Or.inl ⟨by rfl, ?zy8x34⟩) (by assumption) ?zr8x34
                  case zy8x34 => (intro w hSw; (try dsimp only at hSw); (try simp only [List.getElem_toArray, List.getElem_cons_zero, List.getElem_cons_succ]); go_simp; first | done | with_reducible rfl)
                  simp only [Act.put, List.getElem_toArray, List.getElem_cons_zero, List.getElem_cons_succ, List.setIfInBounds_toArray, List.set_cons_zero, List.set_cons_succ]
                  refine wpAnyH_take (i := 35) (v := ?zv8x35) rfl (by kernel_rfl) (by kernel_rfl) (by kernel_rfl) (fun _ _ _ h => h) (Or.inl ⟨by rfl, ?zy8x35⟩) (by assumption) ?zr8x35
                  case zy8x35 => (intro w hSw; (try dsimp only at hSw); (try simp only [List.getElem_toArray, List.getElem_cons_zero, List.getElem_cons_succ]); go_simp; first | done | with_reducible rfl)
                  simp only [Act.put, List.getElem_toArray, List.getElem_cons_zero, List.getElem_cons_succ, List.setIfInBounds_toArray, List.set_cons_zero, List.set_cons_succ]
                  refine wpAnyH_take (i := 36) (v := ?zv8x36) rfl (by kernel_rfl) (by kernel_rfl) (by kernel_rfl) (fun _ _ _ h => h) (Or.inl ⟨by rfl, ?zy8x36⟩) (by assumption) ?zr8x36
                  case zy8x36 => (intro w hSw; (try dsimp only at hSw); (try simp only [List.getElem_toArray, List.getElem_cons_zero, List.getElem_cons_succ]); go_simp; first | done | with_reducible rfl)
                  simp only [Act.put, List.getElem_toArray, List.getElem_cons_zero, List.getElem_cons_succ, List.setIfInBounds_toArray, List.set_cons_zero, List.set_cons_succ]
                  refine wpAnyH_take (i := 37) (v := ?zv8x37) rfl (by kernel_rfl) (by kernel_rfl) (by kernel_rfl) (fun _ _ _ h => h) (Or.inl ⟨by rfl, ?zy8x37⟩) (by assumption) ?zr8x37
                  case zy8x37 => (intro w hSw; (try dsimp only at hSw); (try simp only [List.getElem_toArray, List.getElem_cons_zero, List.getElem_cons_succ]); go_simp; first | done | with_reducible rfl)
                  simp only [Act.put, List.getElem_toArray, List.getElem_cons_zero, List.getElem_cons_succ, List.setIfInBounds_toArray, List.set_cons_zero, List.set_cons_succ]
                  refine wpAnyH_take (i := 38) (v := ?zv8x38) rfl (by kernel_rfl) (by kernel_rfl) (by kernel_rfl) (fun _ _ _ h => h) (Or.inl ⟨by rfl, ?zy8x38⟩) (by assumption) ?zr8x38
                  case zy8x38 => (intro w hSw; (try dsimp only at hSw); (try simp only [List.getElem_toArray, List.getElem_cons_zero, List.getElem_cons_succ]); go_simp; first | done | with_reducible rfl)
                  simp only [Act.put, List.getElem_toArray, List.getElem_cons_zero, List.getElem_cons_succ, List.setIfInBounds_toArray, List.set_cons_zero, List.set_cons_succ]
                  refine wpAnyH_take (i := 39) (v := ?zv8x39) rfl (by kernel_rfl) (by kernel_rfl) (by kernel_rfl) (fun _ _ _ h => h) (Or.inl ⟨by rfl, ?zy8x39⟩) (by assumption) ?zr8x39
                  case zy8x39 => (intro w hSw; (try dsimp only at hSw); (try simp only [List.getElem_toArray, List.getElem_cons_zero, List.getElem_cons_succ]); go_simp; first | done | with_reducible rfl)
                  simp only [Act.put, List.getElem_toArray, List.getElem_cons_zero, List.getElem_cons_succ, List.setIfInBounds_toArray, List.set_cons_zero, List.set_cons_succ]
                  refine wpAnyH_done (by kernel_rfl) ?_ _
                  refine NoPanic.normal ?_
                  obtain ⟨⟨_, _, _, _⟩, ⟨_, _, _, _⟩⟩ := cs.out _ B2
                  obtain ⟨_, _, _, _⟩ := kp.out _ (bel0.trans ((up.out _ B2).mono sz))
                  cases he : (y.t.toList == [42]) with
                  | true =>
                    have HP3 : Hid (elB l.length t 1 y = (decide (l.length ≤ 1) && !(t.toList == []) && ((1 : Int) == 0))) := by show _ = _; rw [HP.out, if_pos he]
                    by_cases hl1 : l.length ≤ 1
                    · have hl1' : ¬ (1 : Int) < (l.length : Int) := by omega
                      cases h0 : (t.toList == []) with
                      | true =>
                        have HR : Hid (l.all (elB l.length t 1) = false) := HB.out (by rw [HP3.out, h0]; simp)
                        clear HB HG HP
                        go_wp2
                        go_ret
                        exact ⟨ret_b (by first | rw [Bool.true_and, HR.out] | rw [HR.out]), (bel.trans ((up.out _ B2).mono bel.size))⟩
                      | false =>
                        have HR : Hid (l.all (elB l.length t 1) = false) := HB.out (by rw [HP3.out]; simp)
                        clear HB HG HP
                        go_wp2
                        go_ret
                        exact ⟨ret_b (by first | rw [Bool.true_and, HR.out] | rw [HR.out]), (bel.trans ((up.out _ B2).mono bel.size))⟩
                    · have hl1' : (1 : Int) < (l.length : Int) := by omega
                      have HR : Hid (l.all (elB l.length t 1) = false) := HB.out (by rw [HP3.out]; simp [hl1])
                      clear HB HG HP
                      go_wp2
                      go_ret
                      exact ⟨ret_b (by first | rw [Bool.true_and, HR.out] | rw [HR.out]), (bel.trans ((up.out _ B2).mono bel.size))⟩
                  | false =>
                    have HP3 : Hid (elB l.length t 1 y = (propT false y.t.data.toList && (!(t.toList == []) || idT false y.t))) := by show _ = _; rw [HP.out, if_neg (by rw [he]; decide)]
                    generalize propT false y.t.data.toList = pt at *
                    generalize idT false y.t = it at *
                    cases pt with
                    | false =>
                      have HR : Hid (l.all (elB l.length t 1) = false) := HB.out HP3.out
                      clear HB HG HP
                      go_wp2_with (go_at_call 48; refine (C1.out _ (bel.trans ((up.out _ B2).mono bel.size))).mono ?_; rintro e W9 ⟨rfl, b9⟩; have B9 := B2.trans (b9.mono B2.size); obtain ⟨⟨_, _, _, _⟩, ⟨_, _, _, _⟩⟩ := cs.out _ B9; obtain ⟨_, _, _, _⟩ := kp.out _ (bel0.trans ((up.out _ B9).mono sz)))
                      go_ret
                      exact ⟨ret_b (by first | rw [Bool.true_and, HR.out] | rw [HR.out]), (bel.trans ((up.out _ B9).mono bel.size))⟩
                    | true =>
                      cases h0 : (t.toList == []) with
                      | false =>
                        have HR : Hid (∀ z ∈ l.take (k + 1), elB l.length t 1 z = true) := HG.out (by rw [HP3.out, h0]; rfl)
                        clear HB HG HP HP3
                        go_wp2_with (go_at_call 48; refine (C1.out _ (bel.trans ((up.out _ B2).mono bel.size))).mono ?_; rintro e W9 ⟨rfl, b9⟩; have B9 := B2.trans (b9.mono B2.size); obtain ⟨⟨_, _, _, _⟩, ⟨_, _, _, _⟩⟩ := cs.out _ B9; obtain ⟨_, _, _, _⟩ := kp.out _ (bel0.trans ((up.out _ B9).mono sz)))
                        go_roundg (gk - 1)
                        case rel => exact ⟨k + 1, by simp, by have := hk.out; show _ = _; omega, bel0.trans ((up.out _ B9).mono sz), HR⟩
                        case measure => have := hk.out; omega
                      | true =>
                        cases it with
                        | false =>
                          have HR : Hid (l.all (elB l.length t 1) = false) := HB.out (by rw [HP3.out, h0]; rfl)
                          clear HB HG HP
                          go_wp2_with (first
                            | (go_at_call 48; refine (C1.out _ (bel.trans ((up.out _ B2).mono bel.size))).mono ?_; rintro e W9 ⟨rfl, b9⟩; have B9 := B2.trans (b9.mono B2.size); obtain ⟨⟨_, _, _, _⟩, ⟨_, _, _, _⟩⟩ := cs.out _ B9; obtain ⟨_, _, _, _⟩ := kp.out _ (bel0.trans ((up.out _ B9).mono sz)))
                            | (go_at_call 46; refine (C4.out _ (bel.trans ((up.out _ B9).mono bel.size))).mono ?_; rintro e W10 ⟨rfl, b10⟩; have B10 := B9.trans (b10.mono B9.size); obtain ⟨⟨_, _, _, _⟩, ⟨_, _, _, _⟩⟩ := cs.out _ B10; obtain ⟨_, _, _, _⟩ := kp.out _ (bel0.trans ((up.out _ B10).mono sz))))
                          go_ret
                          exact ⟨ret_b (by first | rw [Bool.true_and, HR.out] | rw [HR.out]), (bel.trans ((up.out _ B10).mono bel.size))⟩
                        | true =>
                          have HR : Hid (∀ z ∈ l.take (k + 1), elB l.length t 1 z = true) := HG.out (by rw [HP3.out, h0]; rfl)
                          clear HB HG HP HP3
                          go_wp2_with (first
                            | (go_at_call 48; refine (C1.out _ (bel.trans ((up.out _ B2).mono bel.size))).mono ?_; rintro e W9 ⟨rfl, b9⟩; have B9 := B2.trans (b9.mono B2.size); obtain ⟨⟨_, _, _, _⟩, ⟨_, _, _, _⟩⟩ := cs.out _ B9; obtain ⟨_, _, _, _⟩ := kp.out _ (bel0.trans ((up.out _ B9).mono sz)))
                            | (go_at_call 46; refine (C4.out _ (bel.trans ((up.out _ B9).mono bel.size))).mono ?_; rintro e W10 ⟨rfl, b10⟩; have B10 := B9.trans (b10.mono B9.size); obtain ⟨⟨_, _, _, _⟩, ⟨_, _, _, _⟩⟩ := cs.out _ B10; obtain ⟨_, _, _, _⟩ := kp.out _ (bel0.trans ((up.out _ B10).mono sz))))
                          go_roundg (gk - 1)
                          case rel => exact ⟨k + 1, by simp, by have := hk.out; show _ = _; omega, bel0.trans ((up.out _ B10).mono sz), HR⟩
                          case measure => have := hk.out; omega
          · have h1' : ((y.ks.length : Int) == 1) = false := by simp; omega
            have HR : Hid (l.all (elB l.length t 1) = false) := HB.out (by rw [HP.out, h1']; simp)
            clear HB HG HP
            go_wp2_with fail
            obtain ⟨WP, hWP⟩ : ∃ W, wr.alloc (Obj.cells #[Value.int IntKind.i64 65, Value.string y.t, Value.int IntKind.i64 0, Value.slice ak y.ks.length ck] 24) = W := ⟨_, rfl⟩
            have cP : Below wr.heap.size wr WP := by rw [← hWP]; exact bel_a _ _
            have mP : WP.heap[wr.heap.size]? = some (.cells #[Value.int IntKind.i64 65, Value.string y.t, Value.int IntKind.i64 0, Value.slice ak y.ks.length ck] 24 (0, 0)) := by rw [← hWP]; exact heap_alloc_new _ _
            rw [hWP]
            clear hWP
            have lP : wr.heap.size < WP.heap.size := (Array.getElem?_eq_some_iff.1 mP).1
            have up : Hid (∀ W', Below WP.heap.size WP W' → Below wr.heap.size wr W') := fun W' b => cP.trans (b.mono cP.size)
            have cs : Hid (∀ W', Below WP.heap.size WP W' → W'.cell? ⟨wr.heap.size, 0, none⟩ = some (.int .i64 65) ∧ W'.cell? ⟨wr.heap.size, 1, none⟩ = some (.string y.t) ∧ W'.cell? ⟨wr.heap.size, 2, none⟩ = some (.int .i64 0) ∧ W'.cell? ⟨wr.heap.size, 3, none⟩ = some (.slice ak y.ks.length ck)) := fun W' b => (box4 ((b.block _ lP).trans mP)).1
            clear mP
            have B0 : Below WP.heap.size WP WP.drew := (Below.refl _ _).drew
            have d3 : ((y.ks.length : Int) != 1) = true := by simp; omega
            obtain ⟨_, _, _, _⟩ := cs.out _ (Below.refl _ _)
            go_region
            obtain ⟨_, _, _, _⟩ := cs.out _ B0
            obtain ⟨_, _, _, _⟩ := kp.out _ (bel0.trans ((up.out _ B0).mono sz))
            go_wp2
            go_ret
            exact ⟨ret_b (by first | rw [Bool.true_and, HR.out] | rw [HR.out]), (bel.trans ((up.out _ B0).mono bel.size))⟩
        · have HR : Hid (l.all (elB l.length t 1) = false) := HB.out (by rw [HP.out]; simp [hn])
          clear HB HG HP
          go_wp2_with fail
          obtain ⟨WP, hWP⟩ : ∃ W, wr.alloc (Obj.cells #[Value.int IntKind.i64 65, Value.string y.t, Value.int IntKind.i64 y.n, Value.slice ak y.ks.length ck] 24) = W := ⟨_, rfl⟩
          have cP : Below wr.heap.size wr WP := by rw [← hWP]; exact bel_a _ _
          have mP : WP.heap[wr.heap.size]? = some (.cells #[Value.int IntKind.i64 65, Value.string y.t, Value.int IntKind.i64 y.n, Value.slice ak y.ks.length ck] 24 (0, 0)) := by rw [← hWP]; exact heap_alloc_new _ _
          rw [hWP]
          clear hWP
          have lP : wr.heap.size < WP.heap.size := (Array.getElem?_eq_some_iff.1 mP).1
          have up : Hid (∀ W', Below WP.heap.size WP W' → Below wr.heap.size wr W') := fun W' b => cP.trans (b.mono cP.size)
          have cs : Hid (∀ W', Below WP.heap.size WP W' → W'.cell? ⟨wr.heap.size, 0, none⟩ = some (.int .i64 65) ∧ W'.cell? ⟨wr.heap.size, 1, none⟩ = some (.string y.t) ∧ W'.cell? ⟨wr.heap.size, 2, none⟩ = some (.int .i64 y.n) ∧ W'.cell? ⟨wr.heap.size, 3, none⟩ = some (.slice ak y.ks.length ck)) := fun W' b => (box4 ((b.block _ lP).trans mP)).1
          clear mP
          have B0 : Below WP.heap.size WP WP.drew := (Below.refl _ _).drew
          have d2 : (y.n != 0) = true := by simpa using hn
          obtain ⟨_, _, _, _⟩ := cs.out _ (Below.refl _ _)
          go_region
          obtain ⟨_, _, _, _⟩ := cs.out _ B0
          obtain ⟨_, _, _, _⟩ := kp.out _ (bel0.trans ((up.out _ B0).mono sz))
          go_wp2
          go_ret
          exact ⟨ret_b (by first | rw [Bool.true_and, HR.out] | rw [HR.out]), (bel.trans ((up.out _ B0).mono bel.size))⟩
      · have HR : Hid (l.all (elB l.length t 1) = false) := HB.out (by rw [HP.out]; simp [h10])
        clear HB HG HP
        go_wp2_with fail
        obtain ⟨WP, hWP⟩ : ∃ W, wr.alloc (Obj.cells #[Value.int IntKind.i64 y.k, Value.string y.t, Value.int IntKind.i64 y.n, Value.slice ak y.ks.length ck] 24) = W := ⟨_, rfl⟩
        have cP : Below wr.heap.size wr WP := by rw [← hWP]; exact bel_a _ _
        have mP : WP.heap[wr.heap.size]? = some (.cells #[Value.int IntKind.i64 y.k, Value.string y.t, Value.int IntKind.i64 y.n, Value.slice ak y.ks.length ck] 24 (0, 0)) := by rw [← hWP]; exact heap_alloc_new _ _
        rw [hWP]
        clear hWP
        have lP : wr.heap.size < WP.heap.size := (Array.getElem?_eq_some_iff.1 mP).1
        have up : Hid (∀ W', Below WP.heap.size WP W' → Below wr.heap.size wr W') := fun W' b => cP.trans (b.mono cP.size)
        have cs : Hid (∀ W', Below WP.heap.size WP W' → W'.cell? ⟨wr.heap.size, 0, none⟩ = some (.int .i64 y.k) ∧ W'.cell? ⟨wr.heap.size, 1, none⟩ = some (.string y.t) ∧ W'.cell? ⟨wr.heap.size, 2, none⟩ = some (.int .i64 y.n) ∧ W'.cell? ⟨wr.heap.size, 3, none⟩ = some (.slice ak y.ks.length ck)) := fun W' b => (box4 ((b.block _ lP).trans mP)).1
        clear mP
        have B0 : Below WP.heap.size WP WP.drew := (Below.refl _ _).drew
        have d1 : (y.k != 65) = true := by simpa using h10
        obtain ⟨_, _, _, _⟩ := cs.out _ (Below.refl _ _)
        go_region
        obtain ⟨_, _, _, _⟩ := cs.out _ B0
        obtain ⟨_, _, _, _⟩ := kp.out _ (bel0.trans ((up.out _ B0).mono sz))
        go_wp2
        go_ret
        exact ⟨ret_b (by first | rw [Bool.true_and, HR.out] | rw [HR.out]), (bel.trans ((up.out _ B0).mono bel.size))⟩
    · have e : l.take k = l := List.take_of_length_le (by omega)
      have HR : Hid (l.all (elB l.length t 1) = true) := List.all_eq_true.2 (by have := HT.out; rw [e] at this; exact this)
      clear HT e hX hX2 qx rx
      go_wp2
      go_ret
      exact ⟨ret_b (by rw [HR.out]; first | done | simp), bel⟩
end Go.Proofs.YtggahoefbcnaiaaDoor
