/- Own text. Regions that draw their order: order by order; what loads from a block which nobody writes ahead of a certain operation is taken first. -/
import Derived.Test.YtlijplbaefaeaaaDoorProg
import Derived.WalkKit
import Derived.ProofKit
import Derived.OrdersHeld
import Derived.Deep.RegionHeld3
import Derived.Deep.AppendLies
namespace Go.Proofs.YtlijplbaefaeaaaDoor
open Go.RowKit
set_option linter.unusedVariables false
set_option linter.unusedSimpArgs false

section
variable {PP : Program} {md : Region.Mode} {ops : Array Oper} {Q : Exit → Act → World → Prop}
/-- from here on each operation comes up alone, in this order. -/
def chainB (md : Region.Mode) (ops : Array Oper) : Array Bool → List Nat → Bool
  | listed, [] => Region.ready md ops listed == []
  | listed, i :: is => (Region.ready md ops listed == [i]) && chainB md ops (listed.setIfInBounds i true) is
theorem wpOp_list {i : Nat} {o : Oper} {rest : List Oper} {a : Act} {w : World} (ho : ops[i]? = some o) (h : wpList PP ops Q (o :: rest) a w) : wpOp PP ops Q i (wpList PP ops Q rest) a w := by
  unfold wpOp
  rw [ho]
  unfold wpList at h
  exact h
theorem wpAny_chain : ∀ (os : List Oper) (is : List Nat) (fuel : Nat) (listed : Array Bool) (a : Act) (w : World), chainB md ops listed is = true → is.map (ops[·]?) = os.map some → is.length ≤ fuel → wpList PP ops Q os a w → wpAny PP md ops Q fuel listed a w
  | [], [], fuel, listed, a, w, hc, _, _, h => by
    have hr : Region.ready md ops listed = [] := by simpa [chainB] using hc
    cases fuel with
    | zero => exact ⟨hr, h⟩
    | succ f => exact ⟨fun _ => h, fun i hi => by rw [hr] at hi; cases hi⟩
  | o :: os, i :: is, fuel, listed, a, w, hc, hm, hf, h => by
    obtain ⟨f, rfl⟩ : ∃ f, fuel = f + 1 := ⟨fuel - 1, by simp at hf; omega⟩
    have hc' : Region.ready md ops listed = [i] ∧ chainB md ops (listed.setIfInBounds i true) is = true := by simpa [chainB] using hc
    simp only [List.map_cons, List.cons.injEq] at hm
    refine ⟨fun h0 => (by rw [hc'.1] at h0; cases h0), fun j hj => ?_⟩
    rw [hc'.1] at hj
    obtain rfl : j = i := by simpa using hj
    exact wpOp_mono (fun a' w' h' => wpAny_chain os is f _ a' w' hc'.2 hm.2 (by simpa using hf) h') (wpOp_list hm.1 h)
  | [], _ :: _, _, _, _, _, _, hm, _, _ => by cases hm
  | _ :: _, [], _, _, _, _, _, hm, _, _ => by cases hm
/-- one of two comes up; behind it each comes up alone. -/
theorem wpAny_two {i j : Nat} {is js : List Nat} {oi oj : Oper} {os us : List Oper} {fuel : Nat} {listed : Array Bool} {a : Act} {w : World} (hr : Region.ready md ops listed = [i, j]) (hi : ops[i]? = some oi) (hj : ops[j]? = some oj)
    (ci : chainB md ops (listed.setIfInBounds i true) is = true) (cj : chainB md ops (listed.setIfInBounds j true) js = true) (mi : is.map (ops[·]?) = os.map some) (mj : js.map (ops[·]?) = us.map some) (li : is.length ≤ fuel) (lj : js.length ≤ fuel)
    (h1 : wpList PP ops Q (oi :: os) a w) (h2 : wpList PP ops Q (oj :: us) a w) : wpAny PP md ops Q (fuel + 1) listed a w := by
  refine ⟨fun h0 => (by rw [hr] at h0; cases h0), fun k hk => ?_⟩
  rw [hr] at hk
  rcases List.mem_cons.1 hk with rfl | hk
  · exact wpOp_mono (fun a' w' h' => wpAny_chain os is fuel _ a' w' ci mi li h') (wpOp_list hi h1)
  · obtain rfl : k = j := by simpa using hk
    exact wpOp_mono (fun a' w' h' => wpAny_chain us js fuel _ a' w' cj mj lj h') (wpOp_list hj h2)
end
section
variable {PP : Program} {ops : Array Oper} {Q : Exit → Act → World → Prop} {md : Region.Mode} {S : World → Prop} {u : Nat}
/-- whatever order is picked: S holds behind each operation that comes ahead of number u. -/
def wpAnyU (PP : Program) (md : Region.Mode) (ops : Array Oper) (Q : Exit → Act → World → Prop) (S : World → Prop) (u : Nat) : Nat → Array Bool → Act → World → Prop
  | 0, listed, a, w => Region.ready md ops listed = [] ∧ Q .normal a w
  | fuel + 1, listed, a, w => (Region.ready md ops listed = [] → Q .normal a w) ∧ ∀ i ∈ Region.ready md ops listed, wpOp PP ops Q i (fun a' w' => if i = u then wpAny PP md ops Q fuel (listed.setIfInBounds i true) a' w' else S w' ∧ wpAnyU PP md ops Q S u fuel (listed.setIfInBounds i true) a' w') a w
theorem any_of_U : ∀ (fuel : Nat) (listed : Array Bool) (a : Act) (w : World), wpAnyU PP md ops Q S u fuel listed a w → wpAny PP md ops Q fuel listed a w
  | 0, _, _, _, h => h
  | fuel + 1, _, _, _, h => ⟨h.1, fun i hi => wpOp_mono (fun a' w' h' => by
      split at h'
      · exact h'
      · exact any_of_U fuel _ a' w' h'.2) (h.2 i hi)⟩
/-- number u waits for number i. -/
def waits (md : Region.Mode) (ops : Array Oper) (u i : Nat) : Bool := match ops[u]? with
  | some o => o.after.any fun e => Region.binds md e && e.on == i
  | none => false
/-- of two that may come up neither waits for the other. -/
theorem edge_free {listed : Array Bool} {i j : Nat} {oj : Oper} (hr : i ∈ Region.ready md ops listed) (hj : j ∈ Region.ready md ops listed) (hoj : ops[j]? = some oj) {e : Edge} (he : e ∈ oj.after) (hb : Region.binds md e = true) : e.on ≠ i := by
  rintro rfl
  obtain ⟨h0, _⟩ := Go.mem_ready.1 hr
  obtain ⟨_, o, ho, hall⟩ := Go.mem_ready.1 hj
  obtain rfl : o = oj := by rw [ho] at hoj; injection hoj
  have h1 := hall e he hb
  by_cases hl : e.on < listed.size
  · simp only [hl, Array.getD, dite_true, Array.getElem?_eq_getElem] at h0 h1
    simp_all
  · simp_all [Array.getD]
theorem unlisted {listed : Array Bool} {j k : Nat} (h : (listed.setIfInBounds j true).getD k true = false) : listed.getD k true = false := by
  by_cases hjk : j = k
  · exfalso
    subst hjk
    simp [Array.getD] at h
  · rwa [getD_set_ne true hjk] at h
/-- what yields in every world that meets S, and what number u waits for, may be taken first. -/
theorem U_first {i : Nat} {oi : Oper} {v : Value} (hi : ops[i]? = some oi) (hsel : ∀ (j : Nat) (o : Oper) cs b, ops[j]? = some o → o.op ≠ .select cs b)
    (hQ : ∀ c a w, Q (.panic c) (a.put oi.dst v) w → Q (.panic c) a w) (hiu : i ≠ u) (hu : waits md ops u i = true) (fuel : Nat) :
    ∀ (listed : Array Bool) (a : Act) (w : World),
      (∀ j oj, ops[j]? = some oj → j ≠ i → listed.getD j true = false → (∀ e ∈ oj.after, Region.binds md e = true → e.on ≠ i) → oi.apart ops oj = true) →
      i ∈ Region.ready md ops listed → YieldsIf PP ops S oi v a → S w →
      wpAnyU PP md ops Q S u fuel (listed.setIfInBounds i true) (a.put oi.dst v) w → wpAnyU PP md ops Q S u (fuel + 1) listed a w := by
  have hju : ∀ {listed : Array Bool} {j : Nat}, i ∈ Region.ready md ops listed → j ∈ Region.ready md ops listed → j ≠ u := by
    rintro listed j hr hj rfl
    obtain ⟨_, oj, hoj, _⟩ := Go.mem_ready.1 hj
    simp only [waits, hoj, Array.any_eq_true, Bool.and_eq_true, beq_iff_eq] at hu
    obtain ⟨k, hk, h1, h2⟩ := hu
    exact edge_free hr hj hoj (Array.getElem_mem hk) h1 h2
  induction fuel with
  | zero =>
    intro listed a w _ hr hy hS H
    have none : ∀ j ∈ Region.ready md ops listed, j = i := fun j hj => Classical.byContradiction fun hji => by
      have := ready_mono hj hji
      rw [H.1] at this
      cases this
    refine ⟨fun h0 => ?_, fun j hj => ?_⟩
    · rw [h0] at hr; cases hr
    · cases none j hj
      exact hy.wpOp hi hS (by rw [if_neg hiu]; exact ⟨hS, H⟩)
  | succ fuel ih =>
    intro listed a w hfree hr hy hS H
    refine ⟨fun h0 => ?_, fun j hj => ?_⟩
    · rw [h0] at hr; cases hr
    by_cases hji : j = i
    · cases hji
      exact hy.wpOp hi hS (by rw [if_neg hiu]; exact ⟨hS, H⟩)
    obtain ⟨hjun, oj, hoj, _⟩ := Go.mem_ready.1 hj
    have hne := hju hr hj
    have hap := hfree j oj hoj hji hjun (fun e he hb => edge_free hr hj hoj he hb)
    refine wpOp_mono ?_ (wpOp_putIf hoj hap (fun cs b => hsel i oi cs b hi) (fun cs b => hsel j oj cs b hoj) hQ hy (H.2 j (ready_mono hj hji)))
    rintro a' w' ⟨hy', hW⟩
    rw [if_neg hne] at hW ⊢
    refine ⟨hW.1, ih _ _ _ (fun k ok hk hki hun => hfree k ok hk hki (unlisted hun)) (ready_mono hr (Ne.symm hji)) hy' hW.1 ?_⟩
    rw [Array.setIfInBounds_comm _ _ hji]
    exact hW.2
theorem U_take {i : Nat} {oi : Oper} {v : Value} {fuel : Nat} {listed : Array Bool} {a : Act} {w : World} (hi : ops[i]? = some oi)
    (hs : Region.noSelect ops = true) (hf : Region.free md ops listed i = true) (hr : (Region.ready md ops listed).contains i = true) (hu : (waits md ops u i && decide (i ≠ u)) = true)
    (hQ : ∀ c a w, Q (.panic c) (a.put oi.dst v) w → Q (.panic c) a w) (hy : YieldsIf PP ops S oi v a) (hS : S w)
    (h : wpAnyU PP md ops Q S u fuel (listed.setIfInBounds i true) (a.put oi.dst v) w) : wpAnyU PP md ops Q S u (fuel + 1) listed a w := by
  rw [Bool.and_eq_true, decide_eq_true_eq] at hu
  exact U_first hi (Region.noSelect_spec hs) hQ hu.2 hu.1 fuel listed a w (Region.free_spec hi hf) (by simpa using hr) hy hS h
theorem uT (i : Nat) (v : Value) {oi : Oper} {fuel : Nat} {listed : Array Bool} {a : Act} {w : World} (hS : S w) (h : wpAnyU PP md ops Q S u fuel (listed.setIfInBounds i true) (a.put oi.dst v) w) (hi : ops[i]? = some oi := by rfl)
    (hy : YieldsIf PP ops S oi v a := by exact Or.inl ⟨by kernel_rfl, by intro w hSw; (try dsimp only at hSw); go_simp⟩) (hs : Region.noSelect ops = true := by kernel_rfl) (hf : Region.free md ops listed i = true := by kernel_rfl) (hr : (Region.ready md ops listed).contains i = true := by kernel_rfl) (hu : (waits md ops u i && decide (i ≠ u)) = true := by kernel_rfl)
    (hQ : ∀ c a w, Q (.panic c) (a.put oi.dst v) w → Q (.panic c) a w := by exact fun _ _ _ h => h) : wpAnyU PP md ops Q S u (fuel + 1) listed a w := U_take hi hs hf hr hu hQ hy hS h
theorem uS (i : Nat) {oi : Oper} {fuel : Nat} {listed : Array Bool} {a : Act} {w : World} (hS : S w) (h : wpAnyU PP md ops Q S u fuel (listed.setIfInBounds i true) (a.put oi.dst undef) w) (hi : ops[i]? = some oi := by rfl)
    (hy : YieldsIf PP ops S oi undef a := by exact Or.inr ⟨by kernel_rfl, rfl⟩) (hs : Region.noSelect ops = true := by kernel_rfl) (hf : Region.free md ops listed i = true := by kernel_rfl) (hr : (Region.ready md ops listed).contains i = true := by kernel_rfl) (hu : (waits md ops u i && decide (i ≠ u)) = true := by kernel_rfl)
    (hQ : ∀ c a w, Q (.panic c) (a.put oi.dst undef) w → Q (.panic c) a w := by exact fun _ _ _ h => h) : wpAnyU PP md ops Q S u (fuel + 1) listed a w := U_take hi hs hf hr hu hQ hy hS h
theorem wp_region_U {id : Nat} {a : Act} {w : World} (hm : PP.follows .mixedOrders = true) (h : wpAnyU PP .any ops Q S u ops.size (Array.replicate ops.size false) a w.drew) : (Code.region id ops true).wp PP Q a w :=
  wp_region_any hm (any_of_U _ _ _ _ h)
/-- number u alone is left of what may come up. -/
theorem U_end {fuel : Nat} {listed : Array Bool} {a : Act} {w : World} (hr : Region.ready md ops listed = [u]) (h : wpAny PP md ops Q (fuel + 1) listed a w) : wpAnyU PP md ops Q S u (fuel + 1) listed a w :=
  ⟨h.1, fun i hi => by
    have h1 := h.2 i hi
    rw [hr] at hi
    obtain rfl : i = u := by simpa using hi
    simpa using h1⟩
def AllU (PP : Program) (md : Region.Mode) (ops : Array Oper) (Q : Exit → Act → World → Prop) (S : World → Prop) (u : Nat) (fuel : Nat) (listed : Array Bool) (a : Act) (w : World) (rs : List Nat) : Prop :=
  ∀ i ∈ rs, wpOp PP ops Q i (fun a' w' => if i = u then wpAny PP md ops Q fuel (listed.setIfInBounds i true) a' w' else S w' ∧ wpAnyU PP md ops Q S u fuel (listed.setIfInBounds i true) a' w') a w
theorem AllU.nil {fuel : Nat} {listed : Array Bool} {a : Act} {w : World} : AllU PP md ops Q S u fuel listed a w [] := fun _ h => by cases h
theorem AllU.cons {fuel : Nat} {listed : Array Bool} {a : Act} {w : World} {i : Nat} {o : Oper} {rs : List Nat} (ho : ops[i]? = some o) (hiu : i ≠ u)
    (h : ∀ K' : Act → World → Prop, Hid (∀ a w, S w → wpAnyU PP md ops Q S u fuel (listed.setIfInBounds i true) a w → K' a w) → if Region.wanted o (yielded ops a.tmps) = true then Oper.wp PP o a w K' Q else K' (a.put o.dst undef) w)
    (hs : AllU PP md ops Q S u fuel listed a w rs) : AllU PP md ops Q S u fuel listed a w (i :: rs) := fun j hj => by
  rcases List.mem_cons.1 hj with rfl | hj
  · refine wpOp_step ho (fun K' hK => h K' (fun a w hS hW => hK a w ?_))
    rw [if_neg hiu]
    exact ⟨hS, hW⟩
  · exact hs j hj
theorem U_ready {rs : List Nat} {fuel : Nat} {listed : Array Bool} {a : Act} {w : World} (hr : Region.ready md ops listed = rs) (hne : rs ≠ [])
    (h : AllU PP md ops Q S u fuel listed a w rs) : wpAnyU PP md ops Q S u (fuel + 1) listed a w :=
  ⟨fun h0 => absurd (hr.symm.trans h0) hne, fun i hi => h i (by rw [← hr]; exact hi)⟩
end
section
variable {PP : Program} {ops : Array Oper} {Q : Exit → Act → World → Prop} {md : Region.Mode} {l n : Nat}
end
end Go.Proofs.YtlijplbaefaeaaaDoor
