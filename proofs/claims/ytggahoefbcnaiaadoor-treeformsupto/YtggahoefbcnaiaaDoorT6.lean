/- Own text. Same of package tree: whether two trees are the same. -/
import Derived.Test.YtggahoefbcnaiaaDoorT2
namespace Go.Proofs.YtggahoefbcnaiaaDoor
open Go.RowKit
set_option linter.unusedVariables false

set_option maxRecDepth 100000 in
set_option maxHeartbeats 8000000 in
theorem same_any (x : Nd) : ∀ (y : Nd) (w : World) (S T : Nat → Prop) (vx vy : Value), LAt w S vx x.ks → LAt w T vy y.ks → x.size ≤ 4194304 → y.size ≤ 4194304 →
    Calls Tryd.prog 14 #[x.v vx, y.v vy] w fun e w' => ∃ b : Bool, e = .returned (.bool b) ∧ (b = true ↔ x = y) ∧ Below w.heap.size w w' := by
  induction x using Nd.ind with
  | h x ih =>
    intro y w S T vx vy hx hy zx zy
    have lx : x.ks.length ≤ 4194304 := by have := sizes_len x.ks; rw [x.size_eq] at zx; omega
    have ly : y.ks.length ≤ 4194304 := by have := sizes_len y.ks; rw [y.size_eq] at zy; omega
    -- the lists of kids
    have eqf : ∀ w', Below w.heap.size w w' → Calls Tryd.prog 37 #[vx, vy, .func (.func 14) #[] #[]] w' fun e w'' => ∃ b : Bool, e = .returned (.bool b) ∧ (b = true ↔ x.ks = y.ks) ∧ Below w'.heap.size w' w'' := fun w' bel0 => by
      obtain ⟨ax, cx, bx, ox, fx, rfl, px, qx, rx⟩ := (hx.bel bel0).op
      obtain ⟨ay, cy, b', oy, fy, rfl, py, qy, ry⟩ := (hy.bel bel0).op
      by_cases h4 : x.ks.length = y.ks.length
      case neg =>
        go_enter Tryd.func37, Tryd.ntmps37
        go_wp2
        go_ret
        exact ⟨false, rfl, by simp; intro e; exact h4 (by rw [e]), Below.refl _ _⟩
      rw [h4]
      go_enter Tryd.func37, Tryd.ntmps37
      go_wp2
      go_loopw [17] (fun i wr => ∃ k : Nat, i = .int .i64 (k : Nat) ∧ k ≤ y.ks.length ∧ Below w'.heap.size w' wr ∧ Hid (x.ks.take k = y.ks.take k)) (fun i _ => y.ks.length - (intOf i).toNat)
      case atStart => exact ⟨0, rfl, by omega, Below.refl _ _, by simp [Hid]⟩
      case round =>
        obtain ⟨k, rfl, hk, bel, HT⟩ := hrel
        by_cases hky : k < y.ks.length
        · have hkl : k < x.ks.length := by omega
          obtain ⟨rfl, hSx, hbx⟩ := px (by omega)
          obtain ⟨rfl, hTy, hby⟩ := py (by omega)
          have iha := ih x.ks[k] (List.getElem_mem hkl) y.ks[k]
          have zk := x.kid_size hkl
          have zk' := y.kid_size hky
          have HS : Hid (x.ks[k] = y.ks[k] → x.ks.take (k + 1) = y.ks.take (k + 1)) := fun e => by
            rw [List.take_succ_eq_append_getElem hkl, List.take_succ_eq_append_getElem hky, HT.out, e]
          have HN : Hid (¬ x.ks[k] = y.ks[k] → ¬ x.ks = y.ks) := fun hn e => hn (by simp [e])
          obtain ⟨⟨u1, u2, u3, u4⟩, gx⟩ := kid_at (qx k hkl) (rx k hkl) hbx bel
          obtain ⟨⟨v1, v2, v3, v4⟩, gy⟩ := kid_at (qy k hky) (ry k hky) hby bel
          have hbx2 := Nat.lt_of_lt_of_le hbx bel.size
          have hby2 := Nat.lt_of_lt_of_le hby bel.size
          generalize x.ks[k] = xk at *
          generalize y.ks[k] = yk at *
          generalize fx k = fxk at *
          generalize fy k = fyk at *
          obtain ⟨ak, ck, _, _, _, rfl, _⟩ := gx.op
          obtain ⟨ak', ck', _, _, _, rfl, _⟩ := gy.op
          have hall : ∀ W' : World, Below wr.heap.size wr W' → _ := fun W' b => iha W' S T _ _ (gx.bel b) (gy.bel b) (by omega) (by omega)
          go_wp2_with fail
          refine (hall _ ((bel_a _ _).alloc (by simp) _)).mono ?_
          rintro e W1 ⟨b, rfl, hb, b1⟩
          have b2 : Below w'.heap.size w' W1 := (bel.trans (((bel_a _ _).alloc (by simp) _).mono bel.size)).trans (b1.mono (by simp; have := bel.size; omega))
          clear hall iha gx gy u1 u2 u3 u4 v1 v2 v3 v4
          cases b with
          | true =>
            have HT' : Hid (x.ks.take (k + 1) = y.ks.take (k + 1)) := HS.out (hb.1 rfl)
            clear HS HN hb
            go_wp2
            go_roundw
            case rel => exact ⟨k + 1, by simp, by omega, b2, HT'⟩
            case measure => simp [intOf]; omega
          | false =>
            have HF : Hid (¬ x.ks = y.ks) := HN.out (fun e => by simpa using hb.2 e)
            clear HS HN hb
            go_wp2
            go_ret
            exact ⟨false, rfl, by simp [HF.out], b2⟩
        · have HE : Hid (x.ks = y.ks) := by
            have e1 : x.ks.take k = x.ks := List.take_of_length_le (by omega)
            have e2 : y.ks.take k = y.ks := List.take_of_length_le (by omega)
            have e3 := HT.out
            rw [e1, e2] at e3
            exact e3
          clear HT
          go_wp2
          go_ret
          exact ⟨true, rfl, by simp [HE.out], bel⟩
    obtain ⟨ax, cx, rfl⟩ : ∃ a c, vx = .slice a x.ks.length c := by obtain ⟨a, c, _, _, _, e, _⟩ := hx.op; exact ⟨a, c, e⟩
    obtain ⟨ay, cy, rfl⟩ : ∃ a c, vy = .slice a y.ks.length c := by obtain ⟨a, c, _, _, _, e, _⟩ := hy.op; exact ⟨a, c, e⟩
    have no : ∀ w', Below w.heap.size w w' → ¬ x = y → ∃ b : Bool, (Ending.returned (.bool false)) = .returned (.bool b) ∧ (b = true ↔ x = y) ∧ Below w.heap.size w w' := fun w' hb hn => ⟨false, rfl, by simp [hn], hb⟩
    unfold Nd.v
    by_cases h1 : x.k = y.k
    case neg =>
      go_enter Tryd.func14, Tryd.ntmps14
      go_wp2
      go_ret
      exact no _ (((Below.refl _ w).alloc (Nat.le_refl _) _).alloc (by simp) _) (fun e => h1 (by rw [e]))
    by_cases h2 : x.t.toList = y.t.toList
    case neg =>
      go_enter Tryd.func14, Tryd.ntmps14
      go_wp2
      go_ret
      exact no _ (((Below.refl _ w).alloc (Nat.le_refl _) _).alloc (by simp) _) (fun e => h2 (by rw [e]))
    by_cases h3 : x.n = y.n
    case neg =>
      go_enter Tryd.func14, Tryd.ntmps14
      go_wp2
      go_ret
      exact no _ (((Below.refl _ w).alloc (Nat.le_refl _) _).alloc (by simp) _) (fun e => h3 (by rw [e]))
    have HE : Hid (x.ks = y.ks ↔ x = y) := ⟨fun e => Nd.ext' h1 (bytes_eq.2 h2) h3 e, fun e => by rw [e]⟩
    rw [h1, h3]
    clear h1 h3 hx hy
    go_enter Tryd.func14, Tryd.ntmps14
    go_wp2_with (go_at_call 37; refine (eqf _ ((bel_a _ _).alloc (by simp) _)).mono ?_; rintro e W1 ⟨b, rfl, hb, b1⟩)
    go_ret
    exact ⟨b, rfl, hb.trans HE.out, ((bel_a _ _).alloc (by simp) _).trans (b1.mono (by simp; omega))⟩
end Go.Proofs.YtggahoefbcnaiaaDoor
