/- Own text. The form of a tree: package tree. -/
import Derived.Test.YtggahoefbcnaiaaDoorF10
namespace Go.Proofs.YtggahoefbcnaiaaDoor
open Go.RowKit
set_option linter.unusedVariables false
set_option linter.unusedSimpArgs false

/-- text, number and how many kids are as the rule asks. -/
def hdB (mod : Bool) (t : ByteArray) (n : Int) (c : Nat) (r : Rul) : Bool := saysT mod r.t t && !decide (n < 0) && !decide (r.m < n) && !decide (c < r.ks.length)
def propR : Rul := ⟨2, 0, [], 0⟩
mutual
/-- is a tree whole, and may it stand as that part? -/
def fitsP (mod : Bool) (p : Int) : Nd → Bool
  | .mk k t n ks => if p = 114 ∧ k = 6 then hdB mod t n ks.length propR && fitsL mod [] 0 ks
    else standsK p k && (match ruleK k with
      | none => false
      | some r => hdB mod t n ks.length r && fitsL mod r.ks r.r ks && agreesP mod (.mk k t n ks))
def fitsL (mod : Bool) (ps : List Int) (r : Int) : List Nd → Bool
  | [] => true
  | y :: ys => fitsP mod (ps.headD r) y && fitsL mod ps.tail r ys
end
def folP (mod : Bool) (x : Nd) (r : Rul) : Bool := hdB mod x.t x.n x.ks.length r && fitsL mod r.ks r.r x.ks
def wholeP (mod : Bool) (x : Nd) : Bool := match ruleK x.k with
  | none => false
  | some r => folP mod x r && agreesP mod x
theorem fitsP_eq (mod : Bool) (p : Int) (x : Nd) : fitsP mod p x = if p = 114 ∧ x.k = 6 then folP mod x propR else standsK p x.k && wholeP mod x := by
  cases x
  rw [fitsP]
  rfl
theorem fitsL_nil (mod : Bool) (ps : List Int) (r : Int) : fitsL mod ps r [] = true := by rw [fitsL]
theorem fitsL_cons (mod : Bool) (ps : List Int) (r : Int) (y : Nd) (ys : List Nd) : fitsL mod ps r (y :: ys) = (fitsP mod (ps.headD r) y && fitsL mod ps.tail r ys) := by rw [fitsL]
theorem fitsL_all {mod : Bool} {r : Int} : ∀ {l : List Nd}, fitsL mod [] r l = true → ∀ y ∈ l, fitsP mod r y = true
  | z :: l, h, y, hy => by
    rw [fitsL_cons, Bool.and_eq_true] at h
    rcases List.mem_cons.1 hy with rfl | hy
    · exact h.1
    · exact fitsL_all h.2 y hy

/-- a tree that follows its rule can be asked what stands together. -/
theorem preA_of {mod : Bool} {x : Nd} {r : Rul} (hr : ruleK x.k = some r) (h : folP mod x r = true) : PreA x := by
  unfold folP at h
  rw [Bool.and_eq_true] at h
  obtain ⟨h1, h2⟩ := h
  unfold hdB at h1
  simp only [Bool.and_eq_true, Bool.not_eq_true', decide_eq_false_iff_not] at h1
  obtain ⟨⟨⟨_, _⟩, _⟩, hlen⟩ := h1
  refine ⟨fun e => ?_, fun e => ?_, fun e => ?_⟩
  · rw [e, show ruleK 35 = some ⟨0, 0, [12, 104], 0⟩ by rfl] at hr
    cases hr
    cases hks : x.ks with
    | nil => rw [hks] at hlen; simp at hlen
    | cons z l =>
      rw [hks, fitsL_cons, Bool.and_eq_true] at h2
      refine ⟨z, l, rfl, fun y hy => ?_⟩
      have hz := h2.1
      simp only [List.headD_cons] at hz
      rw [fitsP_eq, if_neg (by omega), Bool.and_eq_true] at hz
      have zk : z.k = 12 := by
        have := hz.1
        simp [standsK] at this
        omega
      have hw := hz.2
      unfold wholeP at hw
      rw [zk, show ruleK 12 = some ⟨0, 0, [], 13⟩ by rfl] at hw
      simp only [Bool.and_eq_true] at hw
      have hf := hw.1
      unfold folP at hf
      rw [Bool.and_eq_true] at hf
      have hy2 := fitsL_all hf.2 y hy
      rw [fitsP_eq, if_neg (by simp), Bool.and_eq_true] at hy2
      have yk : y.k = 13 := by
        have := hy2.1
        simp [standsK] at this
        omega
      have hyw := hy2.2
      unfold wholeP at hyw
      rw [yk, show ruleK 13 = some ⟨1, 0, [106], 0⟩ by rfl] at hyw
      simp only [Bool.and_eq_true] at hyw
      have := hyw.1
      unfold folP hdB at this
      simp only [Bool.and_eq_true, Bool.not_eq_true', decide_eq_false_iff_not] at this
      intro e0
      have h3 := this.1.2
      rw [e0] at h3
      simp at h3
  · rw [e, show ruleK 42 = some ⟨1, 0, [], 113⟩ by rfl] at hr
    cases hr
    intro y hy
    have hy2 := fitsL_all h2 y hy
    rw [fitsP_eq, if_neg (by simp), Bool.and_eq_true] at hy2
    have := hy2.1
    simp [standsK] at this
    omega
  · rw [e, show ruleK 65 = some ⟨4, 0, [114], 0⟩ by rfl] at hr
    cases hr
    intro e0
    rw [e0] at hlen
    simp at hlen

/-- what follows, whole and fits answer, at one tree. -/
def FolC (x : Nd) : Prop := ∀ (w : World) (S : Nat → Prop) (v fv vr : Value) (mod : Bool) (r : Rul), LAt w S v x.ks → WAt w fv → PAt w vr r.ks → r.ks.length ≤ 3 →
  Calls Tryd.prog 42 #[fmV fv mod, x.v v, r.v vr] w fun e w' => e = .returned (.bool (folP mod x r)) ∧ Below w.heap.size w w'
def WhoC (x : Nd) : Prop := ∀ (w : World) (S : Nat → Prop) (v fv : Value) (mod : Bool), LAt w S v x.ks → WAt w fv →
  Calls Tryd.prog 27 #[fmV fv mod, x.v v] w fun e w' => e = .returned (.bool (wholeP mod x)) ∧ Below w.heap.size w w'
def FitC (x : Nd) : Prop := ∀ (w : World) (S : Nat → Prop) (v fv : Value) (mod : Bool) (p : Int), LAt w S v x.ks → WAt w fv →
  Calls Tryd.prog 67 #[fmV fv mod, .int .i64 p, x.v v] w fun e w' => e = .returned (.bool (fitsP mod p x)) ∧ Below w.heap.size w w'

set_option maxRecDepth 100000 in
set_option maxHeartbeats 8000000 in
theorem fits_of (x : Nd) (hF : FolC x) (hW : WhoC x) : FitC x := by
  intro w S v fv mod p hx hw
  have hf := fun W (b : Below w.heap.size w W) => hF W S v fv (.slice none 0 0) mod propR (hx.bel b) (hw.bel b) (.inl ⟨rfl, rfl⟩) (by simp [propR])
  have hh := fun W (b : Below w.heap.size w W) => hW W S v fv mod (hx.bel b) (hw.bel b)
  have hst := stands_any p x.k
  obtain ⟨a, rfl⟩ : ∃ a, fv = .slice a 19 19 := by obtain ⟨bl, t, rfl, _⟩ := hw; exact ⟨_, rfl⟩
  obtain ⟨ax, cx, rfl⟩ := hx.sl
  have HB : Hid (∀ o o', Below w.heap.size w ((w.alloc o).alloc o')) := fun o o' => (bel_a w o).alloc (by simp) o'
  have e1 : Hid (∀ o o' W1, Below ((w.alloc o).alloc o').heap.size ((w.alloc o).alloc o') W1 → Below w.heap.size w W1) := fun o o' W1 b => ((bel_a w o).alloc (by simp) _).trans (b.mono (by simp; omega))
  rw [fitsP_eq]
  unfold fmV Nd.v Rul.v propR at *
  generalize folP mod x ⟨2, 0, [], 0⟩ = fb at *
  generalize wholeP mod x = wb at *
  generalize standsK p x.k = sb at *
  by_cases h114 : p = 114
  · subst h114
    by_cases h6 : x.k = 6
    · rw [if_pos ⟨rfl, h6⟩]
      rw [h6] at hf ⊢
      clear hst hh
      go_enter Tryd.func67, Tryd.ntmps67
      go_wp2_with (go_at_call 42; refine (hf _ (HB.out _ _)).mono ?_; rintro e W1 ⟨rfl, b1⟩)
      go_ret
      exact ⟨rfl, e1.out _ _ _ b1⟩
    · rw [if_neg (fun h => h6 h.2)]
      clear hf
      cases sb
      all_goals
        go_enter Tryd.func67, Tryd.ntmps67
        go_wp2_with (first
          | (go_at_call 81; refine (hst _).mono ?_; rintro e W1 ⟨rfl, rfl⟩)
          | (go_at_call 27; refine (hh _ (HB.out _ _)).mono ?_; rintro e W1 ⟨rfl, b1⟩))
        go_ret
        first | exact ⟨rfl, HB.out _ _⟩ | exact ⟨ret_bool (by simp), e1.out _ _ _ b1⟩
  · rw [if_neg (fun h => h114 h.1)]
    clear hf
    cases sb
    all_goals
      go_enter Tryd.func67, Tryd.ntmps67
      go_wp2_with (first
        | (go_at_call 81; refine (hst _).mono ?_; rintro e W1 ⟨rfl, rfl⟩)
        | (go_at_call 27; refine (hh _ (HB.out _ _)).mono ?_; rintro e W1 ⟨rfl, b1⟩))
      go_ret
      first | exact ⟨rfl, HB.out _ _⟩ | exact ⟨ret_bool (by simp), e1.out _ _ _ b1⟩
end Go.Proofs.YtggahoefbcnaiaaDoor
