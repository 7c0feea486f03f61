/- Own text. Whether a tree is as its rule asks, and what stands together in it: package tree. The form of a tree: package tree. The form of a tree: package tree. -/
import Derived.Test.YtpnljjcdlkjfhaaGreatDoorRv08
namespace Go.Proofs.YtpnljjcdlkjfhaaGreatDoor
open Go.RowKit
set_option linter.unusedVariables false
set_option linter.unusedSimpArgs false

def ordB : List Nd → Bool
  | x :: y :: l => decide (x.k ≤ y.k) && ordB (y :: l)
  | _ => true
theorem ordB_iff : ∀ l : List Nd, ordB l = true ↔ ordFrom l 0
  | [] => by simp [ordB, ordFrom]
  | [x] => by simp [ordB, ordFrom]
  | x :: y :: l => by
    rw [ordB, Bool.and_eq_true, decide_eq_true_eq, ordB_iff (y :: l)]
    unfold ordFrom
    constructor
    · rintro ⟨h1, h2⟩ p hp _
      cases p with
      | zero => exact h1
      | succ p => exact h2 p (by simpa using hp) (by omega)
    · intro h
      exact ⟨h 0 (by simp) (by omega), fun p hp _ => h (p + 1) (by simpa using hp) (by omega)⟩
def unlikeB (l : List Nd) : Bool := decide ((l.map fun x => x.t.data.toList).Nodup)
theorem unlikeB_iff (l : List Nd) : unlikeB l = true ↔ unlikeP l := by
  unfold unlikeB unlikeP
  rw [decide_eq_true_eq]
  have e : (l.map fun x => x.t.data.toList) = (l.map (·.t)).map fun t => t.data.toList := by simp
  rw [e]
  constructor
  · intro h
    exact List.Pairwise.of_map _ (fun a b hab hE => hab (by rw [hE])) h
  · intro h
    refine List.Pairwise.map _ (fun a b hab hE => hab ?_) h
    exact ByteArray.ext (Array.toList_inj.1 hE)
def firstTyped (l : List Nd) : Bool := match l with | [] => false | z :: _ => !z.ks.any fun y => hk0 y == 14
def firstText (l : List Nd) (t : ByteArray) : Bool := match l with | [] => false | z :: _ => z.t.toList != t.toList
/-- do the parts of a tree stand together? -/
def agreesP (mod : Bool) (x : Nd) : Bool :=
  if x.k = 12 ∨ x.k = 33 then unlikeB x.ks
  else if x.k = 35 then firstTyped x.ks
  else if x.k = 42 then ordB x.ks && unlikeB x.ks
  else if x.k = 60 then importS x
  else if x.k = 64 then exportS mod x
  else if x.k = 65 then firstText x.ks x.t
  else true
/-- what must be so that the parts can be asked. -/
def PreA (x : Nd) : Prop := (x.k = 35 → ∃ z l, x.ks = z :: l ∧ ∀ y ∈ z.ks, y.ks ≠ []) ∧ (x.k = 42 → ∀ y ∈ x.ks, 43 ≤ y.k ∧ y.k ≤ 45) ∧ (x.k = 65 → x.ks ≠ [])

theorem get0 {l : List Nd} {z : Nd} {r : List Nd} (e : l = z :: r) : ∃ h : 0 < l.length, l[0] = z := by subst e; exact ⟨by simp, rfl⟩

set_option maxRecDepth 100000 in
set_option maxHeartbeats 8000000 in
theorem agrees_any (x : Nd) (w : World) (S : Nat → Prop) (v fv : Value) (mod : Bool) (hx : LAt w S v x.ks) (hw : WAt w fv) (zx : x.size ≤ 4194304) (tx : x.tx) (hp : PreA x) :
    Calls Tryz.prog 66 #[fmV fv mod, x.v v] w fun e w' => e = .returned (.bool (agreesP mod x)) ∧ Below w.heap.size w w' := by
  have zs := x.size_eq
  have lx := sizes_len x.ks
  have lx2 : x.ks.length ≤ 4194304 := by omega
  have tks : ∀ y ∈ x.ks, y.t.size ≤ 4194304 := fun y hy => Nd.tx_own (Nd.tx_kid tx hy)
  have hun := fun W (b : Below w.heap.size w W) => unlike_any W S x.ks v (hx.bel b) lx2 tks
  have him := fun W (b : Below w.heap.size w W) => importStands_any x W S v (hx.bel b) lx2
  have hex := fun W (b : Below w.heap.size w W) => exportStands_any x W S v fv mod (hx.bel b) lx2 (hw.bel b)
  have hin := fun W (b : Below w.heap.size w W) (h : ∀ y ∈ x.ks, 43 ≤ y.k ∧ y.k ≤ 45) => inOrder_any W S x.ks v (hx.bel b) lx2 h
  obtain ⟨a, rfl⟩ : ∃ a, fv = .slice a 19 19 := by obtain ⟨bl, t, rfl, _⟩ := hw; exact ⟨_, rfl⟩
  obtain ⟨ax, cx, bx, ox, fx, rfl, px, qx, rx⟩ := hx.op
  have e1 : Hid (∀ o o' W1, Below ((w.alloc o).alloc o').heap.size ((w.alloc o).alloc o') W1 → Below w.heap.size w W1 ∧ W1.heap[w.heap.size]? = some o ∧ W1.heap[w.heap.size + 1]? = some o') := fun o o' W1 b => ⟨((bel_a w o).alloc (by simp) _).trans (b.mono (by simp; omega)), (b.block w.heap.size (by simp <;> omega)).trans (hold o' (by simp) (hnew o rfl)), (b.block (w.heap.size + 1) (by simp)).trans (hnew o' (by simp))⟩
  have bb : ∀ o o', Below w.heap.size w ((w.alloc o).alloc o') := fun o o' => (bel_a w o).alloc (by simp) o'
  have HB : Hid (∀ o o', Below w.heap.size w ((w.alloc o).alloc o')) := bb
  clear bb tx tks
  unfold fmV Nd.v at *
  unfold agreesP
  by_cases h12 : x.k = 12 ∨ x.k = 33
  · rw [if_pos h12]
    clear him hex hin
    have HU := unlikeB_iff x.ks
    have HU2 : Hid (unlikeB x.ks = true ↔ unlikeP x.ks) := HU
    clear HU
    rcases h12 with h | h
    all_goals
      go_enter Tryz.func66, Tryz.ntmps66
      go_wp2_with (go_at_call 104; refine (hun _ (HB.out _ _)).mono ?_; rintro e W1 ⟨b, rfl, hb, b1⟩)
      go_ret
      exact ⟨ret_bool (by rw [Bool.eq_iff_iff, hb, HU2.out]), (e1.out _ _ _ b1).1⟩
  rw [if_neg h12]
  have h12a : ¬ x.k = 12 := fun h => h12 (.inl h)
  have h33 : ¬ x.k = 33 := fun h => h12 (.inr h)
  clear h12
  by_cases h35 : x.k = 35
  · rw [if_pos h35]
    obtain ⟨z, l, e, hz⟩ := hp.1 h35
    obtain ⟨hpos, hz0⟩ := get0 e
    obtain ⟨rfl, hSx, hbx⟩ := px hpos
    have zk := x.kid_size hpos
    have ty := fun W (b : Below w.heap.size w W) => typed_any z W S (fx 0) (by have := (rx 0 hpos).bel b; rwa [hz0] at this) (by have := sizes_len z.ks; have := z.size_eq; rw [hz0] at zk; omega) hz
    have h4 : Hid (∀ W, Below w.heap.size w W → Four W bx (ox + 0 * 4) z (fx 0)) := fun W b => by have := (qx 0 hpos).of_block (b.block bx hbx); rwa [hz0] at this
    have hft : firstTyped x.ks = !z.ks.any fun y => hk0 y == 14 := by rw [e]; rfl
    obtain ⟨az, cz, ez⟩ := (rx 0 hpos).sl
    rw [ez, hz0] at ty h4
    rw [hft]
    clear him hex hin hun qx rx px hp hft ez e hz hz0 zk
    have u := h4.out _ (HB.out (Obj.cells #[Value.slice a 19 19, Value.bool mod] 84) (Obj.cells #[Value.int IntKind.i64 x.k, Value.string x.t, Value.int IntKind.i64 x.n, Value.slice (some { block := bx, off := ox }) x.ks.length cx] 51))
    obtain ⟨u1, u2, u3, u4⟩ := u
    simp only [Nat.zero_mul, Nat.add_zero, h35] at u1 u2 u3 u4
    unfold Nd.v at ty
    go_enter Tryz.func66, Tryz.ntmps66
    go_wp2_with (go_at_call 105; refine (ty _ (HB.out _ _)).mono ?_; rintro e W1 ⟨rfl, b1⟩)
    go_ret
    exact ⟨rfl, (e1.out _ _ _ b1).1⟩
  rw [if_neg h35]
  by_cases h42 : x.k = 42
  · rw [if_pos h42]
    have hkk := hp.2.1 h42
    have hin2 := fun W (b : Below w.heap.size w W) => hin W b hkk
    have HU2 : Hid (unlikeB x.ks = true ↔ unlikeP x.ks) := unlikeB_iff x.ks
    have HO2 : Hid (ordB x.ks = true ↔ ordFrom x.ks 0) := ordB_iff x.ks
    clear him hex hin px qx rx hp hkk
    cases hob : ordB x.ks
    · go_enter Tryz.func66, Tryz.ntmps66
      go_wp2_with fail
      refine (hin2 _ (HB.out _ _)).mono ?_
      rintro e W1 ⟨b, rfl, hb, b1⟩
      obtain rfl : b = false := by
        cases b
        · rfl
        · have := HO2.out.2 (hb.1 rfl); rw [hob] at this; cases this
      clear hb hin2
      go_wp2
      go_ret
      exact ⟨rfl, (e1.out _ _ _ b1).1⟩
    · go_enter Tryz.func66, Tryz.ntmps66
      go_wp2_with fail
      refine (hin2 _ (HB.out _ _)).mono ?_
      rintro e W1 ⟨b, rfl, hb, b1⟩
      obtain rfl : b = true := hb.2 (HO2.out.1 hob)
      obtain ⟨b2, m1, m2⟩ := e1.out _ _ _ b1
      obtain ⟨⟨c0, c1, c2, c3⟩, _⟩ := box4 m2
      clear hb hin2
      go_wp2_with (go_at_call 104; refine (hun _ b2).mono ?_; rintro e W2 ⟨b, rfl, hb, b3⟩)
      go_ret
      exact ⟨ret_bool (by rw [Bool.eq_iff_iff]; simp only [Bool.true_and, hb, HU2.out]), b2.trans (b3.mono b2.size)⟩
  rw [if_neg h42]
  by_cases h60 : x.k = 60
  · rw [if_pos h60]
    clear hun hex hin px qx rx hp
    go_enter Tryz.func66, Tryz.ntmps66
    rw [h60] at him
    go_wp2_with (go_at_call 107; refine (him _ (HB.out _ _)).mono ?_; rintro e W1 ⟨rfl, b1⟩)
    go_ret
    exact ⟨rfl, (e1.out _ _ _ b1).1⟩
  rw [if_neg h60]
  by_cases h64 : x.k = 64
  · rw [if_pos h64]
    clear hun him hin px qx rx hp
    rw [h64] at hex
    go_enter Tryz.func66, Tryz.ntmps66
    go_wp2_with (go_at_call 108; refine (hex _ (HB.out _ _)).mono ?_; rintro e W1 ⟨rfl, b1⟩)
    go_ret
    exact ⟨rfl, (e1.out _ _ _ b1).1⟩
  rw [if_neg h64]
  clear hun him hin hex
  by_cases h65 : x.k = 65
  · rw [if_pos h65]
    obtain ⟨z, l, e⟩ := List.exists_cons_of_ne_nil (hp.2.2 h65)
    obtain ⟨hpos, hz0⟩ := get0 e
    obtain ⟨rfl, hSx, hbx⟩ := px hpos
    have h4 : Hid (∀ W, Below w.heap.size w W → Four W bx (ox + 0 * 4) z (fx 0)) := fun W b => by have := (qx 0 hpos).of_block (b.block bx hbx); rwa [hz0] at this
    have hft : firstText x.ks x.t = (z.t.toList != x.t.toList) := by rw [e]; rfl
    rw [hft]
    have u := h4.out _ (HB.out (Obj.cells #[Value.slice a 19 19, Value.bool mod] 84) (Obj.cells #[Value.int IntKind.i64 x.k, Value.string x.t, Value.int IntKind.i64 x.n, Value.slice (some { block := bx, off := ox }) x.ks.length cx] 51))
    obtain ⟨_, u2, _, _⟩ := u
    simp only [Nat.zero_mul, Nat.add_zero, h65] at u2
    clear qx rx px hp hft e hz0
    have hdr : ∀ W : World, Below W.heap.size W W.drew := fun W => (Below.refl _ _).drew
    go_enter Tryz.func66, Tryz.ntmps66
    go_wp2_with fail
    go_region
    all_goals
      go_wp2
      go_ret
      exact ⟨rfl, (HB.out _ _).drew⟩
  rw [if_neg h65]
  clear px qx rx hp
  go_enter Tryz.func66, Tryz.ntmps66
  go_wp2
  go_ret
  exact ⟨rfl, HB.out _ _⟩
end Go.Proofs.YtpnljjcdlkjfhaaGreatDoor
namespace Go.Proofs.YtpnljjcdlkjfhaaGreatDoor
open Go.RowKit
set_option linter.unusedVariables false
set_option linter.unusedSimpArgs false

/-- text, number and how many kids are as the rule asks. -/
def hdB (mod : Bool) (t : ByteArray) (n : Int) (c : Nat) (r : Rul) : Bool := saysT mod r.t t && !decide (n < 0) && !decide (r.m < n) && !decide (c < r.ks.length)
def propR : Rul := ⟨2, 0, [], 0⟩
mutual
/-- is a tree whole, and may it stand as that part? -/
def fitsP (mod : Bool) (p : Int) : Nd → Bool
  | .mk k t n ks => if p = 114 ∧ k = 6 then hdB mod t n ks.length propR && fitsL mod [] 0 ks
    else standsK p k && (match ruleK k with
      | none => false
      | some r => hdB mod t n ks.length r && fitsL mod r.ks r.r ks && agreesP mod (.mk k t n ks))
def fitsL (mod : Bool) (ps : List Int) (r : Int) : List Nd → Bool
  | [] => true
  | y :: ys => fitsP mod (ps.headD r) y && fitsL mod ps.tail r ys
end
def folP (mod : Bool) (x : Nd) (r : Rul) : Bool := hdB mod x.t x.n x.ks.length r && fitsL mod r.ks r.r x.ks
def wholeP (mod : Bool) (x : Nd) : Bool := match ruleK x.k with
  | none => false
  | some r => folP mod x r && agreesP mod x
theorem fitsP_eq (mod : Bool) (p : Int) (x : Nd) : fitsP mod p x = if p = 114 ∧ x.k = 6 then folP mod x propR else standsK p x.k && wholeP mod x := by
  cases x
  rw [fitsP]
  rfl
theorem fitsL_nil (mod : Bool) (ps : List Int) (r : Int) : fitsL mod ps r [] = true := by rw [fitsL]
theorem fitsL_cons (mod : Bool) (ps : List Int) (r : Int) (y : Nd) (ys : List Nd) : fitsL mod ps r (y :: ys) = (fitsP mod (ps.headD r) y && fitsL mod ps.tail r ys) := by rw [fitsL]
theorem fitsL_all {mod : Bool} {r : Int} : ∀ {l : List Nd}, fitsL mod [] r l = true → ∀ y ∈ l, fitsP mod r y = true
  | z :: l, h, y, hy => by
    rw [fitsL_cons, Bool.and_eq_true] at h
    rcases List.mem_cons.1 hy with rfl | hy
    · exact h.1
    · exact fitsL_all h.2 y hy

/-- a tree that follows its rule can be asked what stands together. -/
theorem preA_of {mod : Bool} {x : Nd} {r : Rul} (hr : ruleK x.k = some r) (h : folP mod x r = true) : PreA x := by
  unfold folP at h
  rw [Bool.and_eq_true] at h
  obtain ⟨h1, h2⟩ := h
  unfold hdB at h1
  simp only [Bool.and_eq_true, Bool.not_eq_true', decide_eq_false_iff_not] at h1
  obtain ⟨⟨⟨_, _⟩, _⟩, hlen⟩ := h1
  refine ⟨fun e => ?_, fun e => ?_, fun e => ?_⟩
  · rw [e, show ruleK 35 = some ⟨0, 0, [12, 104], 0⟩ by rfl] at hr
    cases hr
    cases hks : x.ks with
    | nil => rw [hks] at hlen; simp at hlen
    | cons z l =>
      rw [hks, fitsL_cons, Bool.and_eq_true] at h2
      refine ⟨z, l, rfl, fun y hy => ?_⟩
      have hz := h2.1
      simp only [List.headD_cons] at hz
      rw [fitsP_eq, if_neg (by omega), Bool.and_eq_true] at hz
      have zk : z.k = 12 := by
        have := hz.1
        simp [standsK] at this
        omega
      have hw := hz.2
      unfold wholeP at hw
      rw [zk, show ruleK 12 = some ⟨0, 0, [], 13⟩ by rfl] at hw
      simp only [Bool.and_eq_true] at hw
      have hf := hw.1
      unfold folP at hf
      rw [Bool.and_eq_true] at hf
      have hy2 := fitsL_all hf.2 y hy
      rw [fitsP_eq, if_neg (by simp), Bool.and_eq_true] at hy2
      have yk : y.k = 13 := by
        have := hy2.1
        simp [standsK] at this
        omega
      have hyw := hy2.2
      unfold wholeP at hyw
      rw [yk, show ruleK 13 = some ⟨1, 0, [106], 0⟩ by rfl] at hyw
      simp only [Bool.and_eq_true] at hyw
      have := hyw.1
      unfold folP hdB at this
      simp only [Bool.and_eq_true, Bool.not_eq_true', decide_eq_false_iff_not] at this
      intro e0
      have h3 := this.1.2
      rw [e0] at h3
      simp at h3
  · rw [e, show ruleK 42 = some ⟨1, 0, [], 113⟩ by rfl] at hr
    cases hr
    intro y hy
    have hy2 := fitsL_all h2 y hy
    rw [fitsP_eq, if_neg (by simp), Bool.and_eq_true] at hy2
    have := hy2.1
    simp [standsK] at this
    omega
  · rw [e, show ruleK 65 = some ⟨4, 0, [114], 0⟩ by rfl] at hr
    cases hr
    intro e0
    rw [e0] at hlen
    simp at hlen

/-- what follows, whole and fits answer, at one tree. -/
def FolC (x : Nd) : Prop := ∀ (w : World) (S : Nat → Prop) (v fv vr : Value) (mod : Bool) (r : Rul), LAt w S v x.ks → WAt w fv → PAt w vr r.ks → r.ks.length ≤ 3 →
  Calls Tryz.prog 65 #[fmV fv mod, x.v v, r.v vr] w fun e w' => e = .returned (.bool (folP mod x r)) ∧ Below w.heap.size w w'
def WhoC (x : Nd) : Prop := ∀ (w : World) (S : Nat → Prop) (v fv : Value) (mod : Bool), LAt w S v x.ks → WAt w fv →
  Calls Tryz.prog 47 #[fmV fv mod, x.v v] w fun e w' => e = .returned (.bool (wholeP mod x)) ∧ Below w.heap.size w w'
def FitC (x : Nd) : Prop := ∀ (w : World) (S : Nat → Prop) (v fv : Value) (mod : Bool) (p : Int), LAt w S v x.ks → WAt w fv →
  Calls Tryz.prog 103 #[fmV fv mod, .int .i64 p, x.v v] w fun e w' => e = .returned (.bool (fitsP mod p x)) ∧ Below w.heap.size w w'

set_option maxRecDepth 100000 in
set_option maxHeartbeats 8000000 in
theorem fits_of (x : Nd) (hF : FolC x) (hW : WhoC x) : FitC x := by
  intro w S v fv mod p hx hw
  have hf := fun W (b : Below w.heap.size w W) => hF W S v fv (.slice none 0 0) mod propR (hx.bel b) (hw.bel b) (.inl ⟨rfl, rfl⟩) (by simp [propR])
  have hh := fun W (b : Below w.heap.size w W) => hW W S v fv mod (hx.bel b) (hw.bel b)
  have hst := stands_any p x.k
  obtain ⟨a, rfl⟩ : ∃ a, fv = .slice a 19 19 := by obtain ⟨bl, t, rfl, _⟩ := hw; exact ⟨_, rfl⟩
  obtain ⟨ax, cx, rfl⟩ := hx.sl
  have HB : Hid (∀ o o', Below w.heap.size w ((w.alloc o).alloc o')) := fun o o' => (bel_a w o).alloc (by simp) o'
  have e1 : Hid (∀ o o' W1, Below ((w.alloc o).alloc o').heap.size ((w.alloc o).alloc o') W1 → Below w.heap.size w W1) := fun o o' W1 b => ((bel_a w o).alloc (by simp) _).trans (b.mono (by simp; omega))
  rw [fitsP_eq]
  unfold fmV Nd.v Rul.v propR at *
  generalize folP mod x ⟨2, 0, [], 0⟩ = fb at *
  generalize wholeP mod x = wb at *
  generalize standsK p x.k = sb at *
  by_cases h114 : p = 114
  · subst h114
    by_cases h6 : x.k = 6
    · rw [if_pos ⟨rfl, h6⟩]
      rw [h6] at hf ⊢
      clear hst hh
      go_enter Tryz.func103, Tryz.ntmps103
      go_wp2_with (go_at_call 65; refine (hf _ (HB.out _ _)).mono ?_; rintro e W1 ⟨rfl, b1⟩)
      go_ret
      exact ⟨rfl, e1.out _ _ _ b1⟩
    · rw [if_neg (fun h => h6 h.2)]
      clear hf
      cases sb
      all_goals
        go_enter Tryz.func103, Tryz.ntmps103
        go_wp2_with (first
          | (go_at_call 137; refine (hst _).mono ?_; rintro e W1 ⟨rfl, rfl⟩)
          | (go_at_call 47; refine (hh _ (HB.out _ _)).mono ?_; rintro e W1 ⟨rfl, b1⟩))
        go_ret
        first | exact ⟨rfl, HB.out _ _⟩ | exact ⟨ret_bool (by simp), e1.out _ _ _ b1⟩
  · rw [if_neg (fun h => h114 h.1)]
    clear hf
    cases sb
    all_goals
      go_enter Tryz.func103, Tryz.ntmps103
      go_wp2_with (first
        | (go_at_call 137; refine (hst _).mono ?_; rintro e W1 ⟨rfl, rfl⟩)
        | (go_at_call 47; refine (hh _ (HB.out _ _)).mono ?_; rintro e W1 ⟨rfl, b1⟩))
      go_ret
      first | exact ⟨rfl, HB.out _ _⟩ | exact ⟨ret_bool (by simp), e1.out _ _ _ b1⟩
end Go.Proofs.YtpnljjcdlkjfhaaGreatDoor
namespace Go.Proofs.YtpnljjcdlkjfhaaGreatDoor
open Go.RowKit
set_option linter.unusedVariables false
set_option linter.unusedSimpArgs false

theorem box2 {w : World} {b : Nat} {p q : Value} (h : ∃ t, w.heap[b]? = some (.cells #[p, q] t (0, 0))) : w.cell? ⟨b, 0, none⟩ = some p ∧ w.cell? ⟨b, 1, none⟩ = some q := by
  obtain ⟨t, h⟩ := h
  simp [World.cell?, h]
theorem box2_of {w w' : World} {b : Nat} {p q : Value} (h : ∃ t, w.heap[b]? = some (.cells #[p, q] t (0, 0))) (e : w'.heap[b]? = w.heap[b]?) : ∃ t, w'.heap[b]? = some (.cells #[p, q] t (0, 0)) := by
  obtain ⟨t, h⟩ := h
  exact ⟨t, e.trans h⟩
theorem PAt.get {w : World} {a : Option Addr} {ks : List Int} (h : PAt w (.slice a ks.length ks.length) ks) {k : Nat} (hk : k < ks.length) : ∃ bl, a = some ⟨bl, 0, none⟩ ∧ bl < w.heap.size ∧ ∀ w', Below w.heap.size w w' → w'.cell? ⟨bl, k, none⟩ = some (.int .i64 ks[k]) := by
  rcases h with ⟨rfl, _⟩ | ⟨bl, t, h1, h2⟩
  · simp at hk
  · cases h1
    have hl := (Array.getElem?_eq_some_iff.1 h2).1
    refine ⟨bl, rfl, hl, fun w' b => ?_⟩
    rw [cell_of_row w' bl _ _ _ _ ((b.block bl hl).trans h2)]
    simp [hk]

set_option maxRecDepth 100000 in
set_option maxHeartbeats 8000000 in
theorem follows_of (x : Nd) (zx : x.size ≤ 4194304) (tx : x.tx) (hK : ∀ y ∈ x.ks, FitC y) : FolC x := by
  intro w S v fv vr mod r hx hw hp hp3
  have zs := x.size_eq
  have lx := sizes_len x.ks
  have lx2 : x.ks.length ≤ 4194304 := by omega
  have hsy := fun W (b : Below w.heap.size w W) => says_any W fv mod r.t x.t (hw.bel b)
  obtain ⟨a, rfl⟩ : ∃ a, fv = .slice a 19 19 := by obtain ⟨bl, t, rfl, _⟩ := hw; exact ⟨_, rfl⟩
  obtain ⟨ax, cx, bx, ox, fx, rfl, px, qx, rx⟩ := hx.op
  obtain ⟨ar, rfl⟩ := hp.sl
  have HB : Hid (∀ o o' o'', Below w.heap.size w (((w.alloc o).alloc o').alloc o'')) := fun o o' o'' => ((bel_a w o).alloc (by simp) o').alloc (by simp <;> omega) o''
  have e1 : Hid (∀ o o' o'' W1, Below (((w.alloc o).alloc o').alloc o'').heap.size (((w.alloc o).alloc o').alloc o'') W1 → Below w.heap.size w W1 ∧ W1.heap[w.heap.size]? = some o ∧ W1.heap[w.heap.size + 1]? = some o' ∧ W1.heap[w.heap.size + 1 + 1]? = some o'' ∧ w.heap.size + 3 ≤ W1.heap.size) := fun o o' o'' W1 b =>
    ⟨(((bel_a w o).alloc (by simp) _).alloc (by simp <;> omega) _).trans (b.mono (by simp; omega)), (b.block w.heap.size (by simp <;> omega)).trans (hold _ (by simp <;> omega) (hold _ (by simp) (hnew _ rfl))), (b.block (w.heap.size + 1) (by simp <;> omega)).trans (hold _ (by simp) (hnew _ (by simp))), (b.block (w.heap.size + 1 + 1) (by simp <;> omega)).trans (hnew _ (by simp)), by have := b.size; simpa using this⟩
  unfold fmV Nd.v Rul.v at *
  unfold folP hdB
  obtain ⟨sb, hsb⟩ : ∃ sb, saysT mod r.t x.t = sb := ⟨_, rfl⟩
  rw [hsb] at hsy ⊢
  clear hsb tx
  cases sb
  · go_enter Tryz.func65, Tryz.ntmps65
    go_wp2_with (go_at_call 102; refine (hsy _ (HB.out _ _ _)).mono ?_; rintro e W1 ⟨rfl, b1⟩)
    go_ret
    exact ⟨rfl, (e1.out _ _ _ _ b1).1⟩
  by_cases hn0 : x.n < 0
  · go_enter Tryz.func65, Tryz.ntmps65
    go_wp2_with (go_at_call 102; refine (hsy _ (HB.out _ _ _)).mono ?_; rintro e W1 ⟨rfl, b1⟩; obtain ⟨b2, m0, m1, m2, z3⟩ := e1.out _ _ _ _ b1; obtain ⟨⟨c0, c1, c2, c3⟩, _⟩ := box4 m1)
    go_ret
    exact ⟨ret_bool (by simp [hn0]), b2⟩
  by_cases hnm : r.m < x.n
  · go_enter Tryz.func65, Tryz.ntmps65
    go_wp2_with (go_at_call 102; refine (hsy _ (HB.out _ _ _)).mono ?_; rintro e W1 ⟨rfl, b1⟩; obtain ⟨b2, m0, m1, m2, z3⟩ := e1.out _ _ _ _ b1; obtain ⟨⟨c0, c1, c2, c3⟩, _⟩ := box4 m1; obtain ⟨⟨d0, d1, d2, d3⟩, _⟩ := box4 m2)
    go_ret
    exact ⟨ret_bool (by simp [hnm]), b2⟩
  by_cases hlen : x.ks.length < r.ks.length
  · go_enter Tryz.func65, Tryz.ntmps65
    go_wp2_with (go_at_call 102; refine (hsy _ (HB.out _ _ _)).mono ?_; rintro e W1 ⟨rfl, b1⟩; obtain ⟨b2, m0, m1, m2, z3⟩ := e1.out _ _ _ _ b1; obtain ⟨⟨c0, c1, c2, c3⟩, _⟩ := box4 m1; obtain ⟨⟨d0, d1, d2, d3⟩, _⟩ := box4 m2)
    go_ret
    exact ⟨ret_bool (by simp [hlen]), b2⟩
  have HG : Hid ((true && !decide (x.n < 0) && !decide (r.m < x.n) && !decide (x.ks.length < r.ks.length) && fitsL mod r.ks r.r x.ks) = fitsL mod r.ks r.r x.ks) := by simp [Hid, hn0, hnm, hlen]
  rw [HG.out]
  go_enter Tryz.func65, Tryz.ntmps65
  go_wp2_with (go_at_call 102; refine (hsy _ (HB.out _ _ _)).mono ?_; rintro e W1 ⟨rfl, b1⟩; obtain ⟨b2, m0, m1, m2, z3⟩ := e1.out _ _ _ _ b1; obtain ⟨⟨c0, c1, c2, c3⟩, _⟩ := box4 m1; obtain ⟨⟨d0, d1, d2, d3⟩, _⟩ := box4 m2)
  clear c0 c1 c2 c3 d0 d1 d2 d3 m1 b1 hsy
  go_loopw [41] (fun i wr => ∃ k : Nat, i = .int .i64 (k : Nat) ∧ k ≤ x.ks.length ∧ Below w.heap.size w wr ∧ w.heap.size + 3 ≤ wr.heap.size ∧ (∃ t, wr.heap[w.heap.size]? = some (.cells #[.slice a 19 19, .bool mod] t (0, 0))) ∧
      wr.heap[w.heap.size + 1 + 1]? = some (.cells #[.int .i64 r.t, .int .i64 r.m, .slice ar r.ks.length r.ks.length, .int .i64 r.r] 135 (0, 0)) ∧ Hid (fitsL mod r.ks r.r x.ks = fitsL mod (r.ks.drop k) r.r (x.ks.drop k))) (fun i _ => x.ks.length - (intOf i).toNat)
  case atStart => exact ⟨0, rfl, by omega, b2, z3, ⟨_, m0⟩, m2, by simp [Hid]⟩
  case round =>
    clear m0 m2 b2 z3
    obtain ⟨k, rfl, hk, bel, sz, m0, m2, HT⟩ := hrel
    obtain ⟨f0, f1⟩ := box2 m0
    obtain ⟨⟨d0, d1, d2, d3⟩, _⟩ := box4 m2
    by_cases hkl : k < x.ks.length
    · obtain ⟨rfl, hSx, hbx⟩ := px (by omega)
      obtain ⟨⟨u1, u2, u3, u4⟩, gx⟩ := kid_at (qx k hkl) (rx k hkl) hbx bel
      have HD : Hid (x.ks.drop k = x.ks[k] :: x.ks.drop (k + 1)) := List.drop_eq_getElem_cons hkl
      have hfit := hK x.ks[k] (List.getElem_mem hkl)
      obtain ⟨ay, cy, ey⟩ := gx.sl
      clear hK qx rx px
      generalize x.ks[k] = y at *
      generalize fx k = fy at *
      subst ey
      obtain ⟨p, hpp⟩ : ∃ p, p = (r.ks.drop k).headD r.r := ⟨_, rfl⟩
      have hcall : ∀ W, Below wr.heap.size wr W → _ := fun W b => hfit W S _ (.slice a 19 19) mod p (gx.bel b) (hw.bel (bel.trans (b.mono bel.size)))
      have HF : Hid (fitsL mod r.ks r.r x.ks = (fitsP mod p y && fitsL mod (r.ks.drop (k + 1)) r.r (x.ks.drop (k + 1)))) := by
        show _ = _
        rw [HT.out, HD.out, fitsL_cons, ← hpp, List.tail_drop]
      clear HT HD hfit
      obtain ⟨wr2, hwr2⟩ : ∃ W, wr.alloc (Obj.cells #[Value.int IntKind.i64 y.k, Value.string y.t, Value.int IntKind.i64 y.n, Value.slice ay y.ks.length cy] 51) = W := ⟨_, rfl⟩
      have bw2 : Below wr.heap.size wr wr2 := by rw [← hwr2]; exact bel_a _ _
      have mK : wr2.heap[wr.heap.size]? = some (.cells #[Value.int IntKind.i64 y.k, Value.string y.t, Value.int IntKind.i64 y.n, Value.slice ay y.ks.length cy] 51 (0, 0)) := by rw [← hwr2]; exact hnew _ rfl
      obtain ⟨⟨k0, k1, k2, k3⟩, _⟩ := box4 mK
      obtain ⟨f0', f1'⟩ := box2 (box2_of m0 (bw2.block w.heap.size (by omega)))
      obtain ⟨⟨d0', d1', d2', d3'⟩, _⟩ := box4 ((bw2.block (w.heap.size + 1 + 1) (by omega)).trans m2)
      have hcc := hcall wr2 bw2
      have fin : Hid (∀ W1, Below wr2.heap.size wr2 W1 → Below w.heap.size w W1 ∧ w.heap.size + 3 ≤ W1.heap.size ∧ (∃ t, W1.heap[w.heap.size]? = some (.cells #[.slice a 19 19, .bool mod] t (0, 0))) ∧ W1.heap[w.heap.size + 1 + 1]? = some (.cells #[.int .i64 r.t, .int .i64 r.m, .slice ar r.ks.length r.ks.length, .int .i64 r.r] 135 (0, 0))) := fun W1 b => by
        have b3 := bw2.trans (b.mono bw2.size)
        exact ⟨bel.trans (b3.mono bel.size), Nat.le_trans sz b3.size, box2_of m0 (b3.block _ (by omega)), (b3.block _ (by omega)).trans m2⟩
      clear hcall m0 m2 mK
      unfold fmV Nd.v at hcc
      by_cases hkr : k < r.ks.length
      · obtain ⟨bl, rfl, hbl, hc⟩ := (hp.bel bel).get hkr
        have hc2 := hc wr2 bw2
        have hpe : p = r.ks[k] := by rw [hpp, List.drop_eq_getElem_cons hkr]; rfl
        rw [← hpe] at hc2
        clear hc hpe hpp hp
        cases hfb : fitsP mod p y
        · rw [hfb] at hcc HF
          go_wp2_with (go_at_call 103; refine hcc.mono ?_; rintro e W1 ⟨rfl, b1⟩)
          go_ret
          exact ⟨ret_bool (by rw [HF.out]; rfl), (fin.out _ b1).1⟩
        · rw [hfb] at hcc HF
          go_wp2_with (go_at_call 103; refine hcc.mono ?_; rintro e W1 ⟨rfl, b1⟩)
          obtain ⟨b2, z3, q0, q2⟩ := fin.out _ b1
          go_roundw
          case rel => exact ⟨k + 1, by simp, by omega, b2, z3, q0, q2, HF.out⟩
          case measure => simp [intOf]; omega
      · have hpe : p = r.r := by rw [hpp, List.drop_of_length_le (by omega)]; rfl
        subst hpe
        clear hpp hp
        cases hfb : fitsP mod r.r y
        · rw [hfb] at hcc HF
          go_wp2_with (go_at_call 103; refine hcc.mono ?_; rintro e W1 ⟨rfl, b1⟩)
          go_ret
          exact ⟨ret_bool (by rw [HF.out]; rfl), (fin.out _ b1).1⟩
        · rw [hfb] at hcc HF
          go_wp2_with (go_at_call 103; refine hcc.mono ?_; rintro e W1 ⟨rfl, b1⟩)
          obtain ⟨b2, z3, q0, q2⟩ := fin.out _ b1
          go_roundw
          case rel => exact ⟨k + 1, by simp, by omega, b2, z3, q0, q2, HF.out⟩
          case measure => simp [intOf]; omega
    · have HE : Hid (fitsL mod r.ks r.r x.ks = true) := by
        show _ = _
        rw [HT.out, List.drop_of_length_le (by omega : x.ks.length ≤ k), fitsL_nil]
      clear HT hK
      go_wp2
      go_ret
      exact ⟨ret_bool (by rw [HE.out]), bel⟩
end Go.Proofs.YtpnljjcdlkjfhaaGreatDoor
