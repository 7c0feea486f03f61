/- Own text. An expression in the first place of an array or a sum. -/
import Derived.Test.YtggahoefbcnaiabDoorF13
import Derived.Test.YtggahoefbcnaiabDoorT14
namespace Go.Proofs.YtggahoefbcnaiabDoor
set_option linter.unusedVariables false

theorem wholeP_of {mod : Bool} {x : Nd} {r : Rul} (hr : ruleK x.k = some r) : wholeP mod x = (folP mod x r && agreesP mod x) := by
  unfold wholeP
  rw [hr]
theorem form_whole {x : Nd} (h : formP x = 1) : formK x.k = 1 ∧ wholeP false x = true := by
  unfold formP at h
  split at h
  · rename_i hw
    refine ⟨h, ?_⟩
    have : (x.k == 68) = false := by
      by_cases e : x.k = 68
      · rw [e] at h; exact absurd h (by decide)
      · simpa using e
    rwa [this] at hw
  · cases h
theorem fits_expr {x : Nd} (h : formP x = 1) : fitsP false 101 x = true := by
  obtain ⟨h1, h2⟩ := form_whole h
  rw [fitsP_eq, if_neg (by omega), h2]
  simp [standsK, h1]
theorem form_back (x m : Nd) (hk : x.k = 8 ∨ x.k = 16) (fx : formP x = 1) (fm : formP m = 1) (h1 : 1 < x.size) : formP (x.repl 1 m) = 1 := by
  obtain ⟨k1, wx⟩ := form_whole fx
  have hm := fits_expr fm
  obtain ⟨k, t, n, ks⟩ := x
  rw [Nd.repl_pos _ m (by omega)]
  cases ks with
  | nil => rw [Nd.size_eq] at h1; simp only [Nd.ks, sizes_nil] at h1; omega
  | cons y l =>
    have e : repls (Nd.mk k t n (y :: l)).ks (1 - 1) m = m :: l := by
      show repls (y :: l) 0 m = m :: l
      rw [repls, if_pos (by have := y.size_pos; omega), Nd.repl_zero]
    rw [e]
    have hk' : k = 8 ∨ k = 16 := hk
    have key : wholeP false (.mk k t n (m :: l)) = true := by
      rcases hk' with rfl | rfl
      · have hr : ruleK 8 = some ⟨0, 0, [], 101⟩ := by rfl
        rw [wholeP_of (x := .mk 8 t n (y :: l)) (r := ⟨0, 0, [], 101⟩) hr] at wx
        rw [wholeP_of (x := .mk 8 t n (m :: l)) (r := ⟨0, 0, [], 101⟩) hr]
        simp only [folP, Nd.ks, Nd.t, Nd.n, fitsL_cons, Bool.and_eq_true] at wx ⊢
        exact ⟨⟨wx.1.1, hm, wx.1.2.2⟩, rfl⟩
      · have hr : ruleK 16 = some ⟨8, 0, [101, 101], 0⟩ := by rfl
        rw [wholeP_of (x := .mk 16 t n (y :: l)) (r := ⟨8, 0, [101, 101], 0⟩) hr] at wx
        rw [wholeP_of (x := .mk 16 t n (m :: l)) (r := ⟨8, 0, [101, 101], 0⟩) hr]
        simp only [folP, Nd.ks, Nd.t, Nd.n, fitsL_cons, Bool.and_eq_true] at wx ⊢
        exact ⟨⟨wx.1.1, hm, wx.1.2.2⟩, rfl⟩
    unfold formP
    have hf : ((Nd.mk k t n (m :: l)).k == 68) = false := by
      show (k == 68) = false
      rcases hk' with rfl | rfl <;> rfl
    show (if wholeP ((Nd.mk k t n (m :: l)).k == 68) (.mk k t n (m :: l)) = true then formK k else 0) = 1
    rw [hf, if_pos key]
    exact k1
end Go.Proofs.YtggahoefbcnaiabDoor
