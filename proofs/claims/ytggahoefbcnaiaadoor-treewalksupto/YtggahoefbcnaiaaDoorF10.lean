/- Own text. Whether a tree is as its rule asks, and what stands together in it: package tree. -/
import Derived.Test.YtggahoefbcnaiaaDoorF9
namespace Go.Proofs.YtggahoefbcnaiaaDoor
open Go.RowKit
set_option linter.unusedVariables false
set_option linter.unusedSimpArgs false

def ordB : List Nd → Bool
  | x :: y :: l => decide (x.k ≤ y.k) && ordB (y :: l)
  | _ => true
theorem ordB_iff : ∀ l : List Nd, ordB l = true ↔ ordFrom l 0
  | [] => by simp [ordB, ordFrom]
  | [x] => by simp [ordB, ordFrom]
  | x :: y :: l => by
    rw [ordB, Bool.and_eq_true, decide_eq_true_eq, ordB_iff (y :: l)]
    unfold ordFrom
    constructor
    · rintro ⟨h1, h2⟩ p hp _
      cases p with
      | zero => exact h1
      | succ p => exact h2 p (by simpa using hp) (by omega)
    · intro h
      exact ⟨h 0 (by simp) (by omega), fun p hp _ => h (p + 1) (by simpa using hp) (by omega)⟩
def unlikeB (l : List Nd) : Bool := decide ((l.map fun x => x.t.data.toList).Nodup)
theorem unlikeB_iff (l : List Nd) : unlikeB l = true ↔ unlikeP l := by
  unfold unlikeB unlikeP
  rw [decide_eq_true_eq]
  have e : (l.map fun x => x.t.data.toList) = (l.map (·.t)).map fun t => t.data.toList := by simp
  rw [e]
  constructor
  · intro h
    exact List.Pairwise.of_map _ (fun a b hab hE => hab (by rw [hE])) h
  · intro h
    refine List.Pairwise.map _ (fun a b hab hE => hab ?_) h
    exact ByteArray.ext (Array.toList_inj.1 hE)
def firstTyped (l : List Nd) : Bool := match l with | [] => false | z :: _ => !z.ks.any fun y => hk0 y == 14
def firstText (l : List Nd) (t : ByteArray) : Bool := match l with | [] => false | z :: _ => z.t.toList != t.toList
/-- do the parts of a tree stand together? -/
def agreesP (mod : Bool) (x : Nd) : Bool :=
  if x.k = 12 ∨ x.k = 33 then unlikeB x.ks
  else if x.k = 35 then firstTyped x.ks
  else if x.k = 42 then ordB x.ks && unlikeB x.ks
  else if x.k = 60 then importS x
  else if x.k = 64 then exportS mod x
  else if x.k = 65 then firstText x.ks x.t
  else true
/-- what must be so that the parts can be asked. -/
def PreA (x : Nd) : Prop := (x.k = 35 → ∃ z l, x.ks = z :: l ∧ ∀ y ∈ z.ks, y.ks ≠ []) ∧ (x.k = 42 → ∀ y ∈ x.ks, 43 ≤ y.k ∧ y.k ≤ 45) ∧ (x.k = 65 → x.ks ≠ [])

theorem get0 {l : List Nd} {z : Nd} {r : List Nd} (e : l = z :: r) : ∃ h : 0 < l.length, l[0] = z := by subst e; exact ⟨by simp, rfl⟩

set_option maxRecDepth 100000 in
set_option maxHeartbeats 8000000 in
theorem agrees_any (x : Nd) (w : World) (S : Nat → Prop) (v fv : Value) (mod : Bool) (hx : LAt w S v x.ks) (hw : WAt w fv) (zx : x.size ≤ 4194304) (tx : x.tx) (hp : PreA x) :
    Calls Tryd.prog 43 #[fmV fv mod, x.v v] w fun e w' => e = .returned (.bool (agreesP mod x)) ∧ Below w.heap.size w w' := by
  have zs := x.size_eq
  have lx := sizes_len x.ks
  have lx2 : x.ks.length ≤ 4194304 := by omega
  have tks : ∀ y ∈ x.ks, y.t.size ≤ 4194304 := fun y hy => Nd.tx_own (Nd.tx_kid tx hy)
  have hun := fun W (b : Below w.heap.size w W) => unlike_any W S x.ks v (hx.bel b) lx2 tks
  have him := fun W (b : Below w.heap.size w W) => importStands_any x W S v (hx.bel b) lx2
  have hex := fun W (b : Below w.heap.size w W) => exportStands_any x W S v fv mod (hx.bel b) lx2 (hw.bel b)
  have hin := fun W (b : Below w.heap.size w W) (h : ∀ y ∈ x.ks, 43 ≤ y.k ∧ y.k ≤ 45) => inOrder_any W S x.ks v (hx.bel b) lx2 h
  obtain ⟨a, rfl⟩ : ∃ a, fv = .slice a 19 19 := by obtain ⟨bl, t, rfl, _⟩ := hw; exact ⟨_, rfl⟩
  obtain ⟨ax, cx, bx, ox, fx, rfl, px, qx, rx⟩ := hx.op
  have e1 : Hid (∀ o o' W1, Below ((w.alloc o).alloc o').heap.size ((w.alloc o).alloc o') W1 → Below w.heap.size w W1 ∧ W1.heap[w.heap.size]? = some o ∧ W1.heap[w.heap.size + 1]? = some o') := fun o o' W1 b => ⟨((bel_a w o).alloc (by simp) _).trans (b.mono (by simp; omega)), (b.block w.heap.size (by simp <;> omega)).trans (hold o' (by simp) (hnew o rfl)), (b.block (w.heap.size + 1) (by simp)).trans (hnew o' (by simp))⟩
  have bb : ∀ o o', Below w.heap.size w ((w.alloc o).alloc o') := fun o o' => (bel_a w o).alloc (by simp) o'
  have HB : Hid (∀ o o', Below w.heap.size w ((w.alloc o).alloc o')) := bb
  clear bb tx tks
  unfold fmV Nd.v at *
  unfold agreesP
  by_cases h12 : x.k = 12 ∨ x.k = 33
  · rw [if_pos h12]
    clear him hex hin
    have HU := unlikeB_iff x.ks
    have HU2 : Hid (unlikeB x.ks = true ↔ unlikeP x.ks) := HU
    clear HU
    rcases h12 with h | h
    all_goals
      go_enter Tryd.func43, Tryd.ntmps43
      go_wp2_with (go_at_call 68; refine (hun _ (HB.out _ _)).mono ?_; rintro e W1 ⟨b, rfl, hb, b1⟩)
      go_ret
      exact ⟨ret_bool (by rw [Bool.eq_iff_iff, hb, HU2.out]), (e1.out _ _ _ b1).1⟩
  rw [if_neg h12]
  have h12a : ¬ x.k = 12 := fun h => h12 (.inl h)
  have h33 : ¬ x.k = 33 := fun h => h12 (.inr h)
  clear h12
  by_cases h35 : x.k = 35
  · rw [if_pos h35]
    obtain ⟨z, l, e, hz⟩ := hp.1 h35
    obtain ⟨hpos, hz0⟩ := get0 e
    obtain ⟨rfl, hSx, hbx⟩ := px hpos
    have zk := x.kid_size hpos
    have ty := fun W (b : Below w.heap.size w W) => typed_any z W S (fx 0) (by have := (rx 0 hpos).bel b; rwa [hz0] at this) (by have := sizes_len z.ks; have := z.size_eq; rw [hz0] at zk; omega) hz
    have h4 : Hid (∀ W, Below w.heap.size w W → Four W bx (ox + 0 * 4) z (fx 0)) := fun W b => by have := (qx 0 hpos).of_block (b.block bx hbx); rwa [hz0] at this
    have hft : firstTyped x.ks = !z.ks.any fun y => hk0 y == 14 := by rw [e]; rfl
    obtain ⟨az, cz, ez⟩ := (rx 0 hpos).sl
    rw [ez, hz0] at ty h4
    rw [hft]
    clear him hex hin hun qx rx px hp hft ez e hz hz0 zk
    have u := h4.out _ (HB.out (Obj.cells #[Value.slice a 19 19, Value.bool mod] 44) (Obj.cells #[Value.int IntKind.i64 x.k, Value.string x.t, Value.int IntKind.i64 x.n, Value.slice (some { block := bx, off := ox }) x.ks.length cx] 24))
    obtain ⟨u1, u2, u3, u4⟩ := u
    simp only [Nat.zero_mul, Nat.add_zero, h35] at u1 u2 u3 u4
    unfold Nd.v at ty
    go_enter Tryd.func43, Tryd.ntmps43
    go_wp2_with (go_at_call 69; refine (ty _ (HB.out _ _)).mono ?_; rintro e W1 ⟨rfl, b1⟩)
    go_ret
    exact ⟨rfl, (e1.out _ _ _ b1).1⟩
  rw [if_neg h35]
  by_cases h42 : x.k = 42
  · rw [if_pos h42]
    have hkk := hp.2.1 h42
    have hin2 := fun W (b : Below w.heap.size w W) => hin W b hkk
    have HU2 : Hid (unlikeB x.ks = true ↔ unlikeP x.ks) := unlikeB_iff x.ks
    have HO2 : Hid (ordB x.ks = true ↔ ordFrom x.ks 0) := ordB_iff x.ks
    clear him hex hin px qx rx hp hkk
    cases hob : ordB x.ks
    · go_enter Tryd.func43, Tryd.ntmps43
      go_wp2_with fail
      refine (hin2 _ (HB.out _ _)).mono ?_
      rintro e W1 ⟨b, rfl, hb, b1⟩
      obtain rfl : b = false := by
        cases b
        · rfl
        · have := HO2.out.2 (hb.1 rfl); rw [hob] at this; cases this
      clear hb hin2
      go_wp2
      go_ret
      exact ⟨rfl, (e1.out _ _ _ b1).1⟩
    · go_enter Tryd.func43, Tryd.ntmps43
      go_wp2_with fail
      refine (hin2 _ (HB.out _ _)).mono ?_
      rintro e W1 ⟨b, rfl, hb, b1⟩
      obtain rfl : b = true := hb.2 (HO2.out.1 hob)
      obtain ⟨b2, m1, m2⟩ := e1.out _ _ _ b1
      obtain ⟨⟨c0, c1, c2, c3⟩, _⟩ := box4 m2
      clear hb hin2
      go_wp2_with (go_at_call 68; refine (hun _ b2).mono ?_; rintro e W2 ⟨b, rfl, hb, b3⟩)
      go_ret
      exact ⟨ret_bool (by rw [Bool.eq_iff_iff]; simp only [Bool.true_and, hb, HU2.out]), b2.trans (b3.mono b2.size)⟩
  rw [if_neg h42]
  by_cases h60 : x.k = 60
  · rw [if_pos h60]
    clear hun hex hin px qx rx hp
    go_enter Tryd.func43, Tryd.ntmps43
    rw [h60] at him
    go_wp2_with (go_at_call 71; refine (him _ (HB.out _ _)).mono ?_; rintro e W1 ⟨rfl, b1⟩)
    go_ret
    exact ⟨rfl, (e1.out _ _ _ b1).1⟩
  rw [if_neg h60]
  by_cases h64 : x.k = 64
  · rw [if_pos h64]
    clear hun him hin px qx rx hp
    rw [h64] at hex
    go_enter Tryd.func43, Tryd.ntmps43
    go_wp2_with (go_at_call 72; refine (hex _ (HB.out _ _)).mono ?_; rintro e W1 ⟨rfl, b1⟩)
    go_ret
    exact ⟨rfl, (e1.out _ _ _ b1).1⟩
  rw [if_neg h64]
  clear hun him hin hex
  by_cases h65 : x.k = 65
  · rw [if_pos h65]
    obtain ⟨z, l, e⟩ := List.exists_cons_of_ne_nil (hp.2.2 h65)
    obtain ⟨hpos, hz0⟩ := get0 e
    obtain ⟨rfl, hSx, hbx⟩ := px hpos
    have h4 : Hid (∀ W, Below w.heap.size w W → Four W bx (ox + 0 * 4) z (fx 0)) := fun W b => by have := (qx 0 hpos).of_block (b.block bx hbx); rwa [hz0] at this
    have hft : firstText x.ks x.t = (z.t.toList != x.t.toList) := by rw [e]; rfl
    rw [hft]
    have u := h4.out _ (HB.out (Obj.cells #[Value.slice a 19 19, Value.bool mod] 44) (Obj.cells #[Value.int IntKind.i64 x.k, Value.string x.t, Value.int IntKind.i64 x.n, Value.slice (some { block := bx, off := ox }) x.ks.length cx] 24))
    obtain ⟨_, u2, _, _⟩ := u
    simp only [Nat.zero_mul, Nat.add_zero, h65] at u2
    clear qx rx px hp hft e hz0
    have hdr : ∀ W : World, Below W.heap.size W W.drew := fun W => (Below.refl _ _).drew
    go_enter Tryd.func43, Tryd.ntmps43
    go_wp2_with fail
    go_region
    all_goals
      go_wp2
      go_ret
      exact ⟨rfl, (HB.out _ _).drew⟩
  rw [if_neg h65]
  clear px qx rx hp
  go_enter Tryd.func43, Tryd.ntmps43
  go_wp2
  go_ret
  exact ⟨rfl, HB.out _ _⟩
end Go.Proofs.YtggahoefbcnaiaaDoor
