/- Own text. Package cursor: parameters. -/
import Derived.Test.YtmfgcaffdkakhaaGreatC6
namespace Go.Proofs.YtmfgcaffdkakhaaGreat
open Go.RowKit Go.Maps
set_option linter.unusedVariables false
set_option linter.unusedSimpArgs false

def sPo : ByteArray := ⟨#[40]⟩
def sPc : ByteArray := ⟨#[41]⟩
def paramsG (L : List Tok) (G : Nat → Rs Nd) (a : Nat) : Rs Nd := (wantR L sPo a).bind fun _ a1 => (listG L sPc (parG L G) (L.length + 1 - a1) [] [] a1).bind fun l a2 => .ok (mk0 12 mtT l) a2
theorem parG_ok {L : List Tok} {G : Nat → Rs Nd} {ns : List (List UInt8)} {a b : Nat} {x : Nd × List (List UInt8)} (hm : ∀ a x b, G a = .ok x b → a ≤ b) (h : parG L G ns a = .ok x b) : a < b ∧ x.2.length = ns.length + 1 := by
  unfold parG addR idR at h
  split at h
  · cases h
  · rw [Rs.bind_ok] at h
    split at h
    · rw [Rs.bind_ok] at h
      cases hG : G (a + 1) with
      | bad p e => rw [hG] at h; cases h
      | ok y a2 =>
        rw [hG, Rs.bind_ok] at h
        cases h
        have := hm _ _ _ hG
        exact ⟨by omega, by simp⟩
    · cases h
theorem eg_par : ∀ args w, (callFunc 93 args).run Tryz.prog w = .ok (.enter 93 args) w := Go.Proofs.enters_of Tryz.func93 (by kernel_rfl) rfl
set_option maxRecDepth 100000 in
set_option maxHeartbeats 8000000 in
theorem params_any {P : Pl} {L : List Tok} {o : Ex} {k : FuncId} {rs caps : Array Value} (eg : ∀ args w, (callFunc k args).run Tryz.prog w = .ok (.enter k args) w) (G : Nat → Rs Nd) (w : World) (a : Nat) (h : Rd w P L a o) (hs : Small L)
    (hmono : ∀ a x b, G a = .ok x b → a ≤ b)
    (hT : ∀ W b, a < b → Rd W P L b o → Calls Tryz.prog k (rs ++ caps) W (AnsN P L o W (G b))) :
    Calls Tryz.prog 69 #[.pointer (some ⟨P.R, 0, none⟩), .func (.func k) rs caps] w (AnsN P L o w (paramsG L G a)) := by
  have hRw := h.lt
  have hbl0 := h.x.lt
  obtain ⟨wA, hwA⟩ : ∃ W, (w.alloc (.cells #[.pointer (some ⟨P.R, 0, none⟩)] 68)).alloc (.cells #[.func (.func k) rs caps] 37) = W := ⟨_, rfl⟩
  have bA : Below w.heap.size w wA := by rw [← hwA]; exact ((Below.refl _ _).alloc (Nat.le_refl _) _).alloc (by simp) _
  have sA : wA.heap.size = w.heap.size + 2 := by rw [← hwA]; simp
  have mA : wA.heap[w.heap.size]? = some (.cells #[.pointer (some ⟨P.R, 0, none⟩)] 68) := by rw [← hwA]; exact hold _ (by simp) (hnew _ rfl)
  have mB : wA.heap[w.heap.size + 1]? = some (.cells #[.func (.func k) rs caps] 37) := by rw [← hwA]; exact hnew _ (by simp)
  have hA := h.bel bA
  obtain ⟨h0, a0, z0, M0⟩ := begin_cell hA
  have kw : KeptR P.R w (wA.alloc zN) := (KeptR.of bA).trans a0
  have HC : Hid (∀ W, KeptR P.R (wA.alloc zN) W → W.cell? ⟨w.heap.size, 0, none⟩ = some (.pointer (some ⟨P.R, 0, none⟩)) ∧ W.cell? ⟨w.heap.size + 1, 0, none⟩ = some (.func (.func k) rs caps)) := fun W b => by
    have e1 : W.heap[w.heap.size]? = some (.cells #[.pointer (some ⟨P.R, 0, none⟩)] 68) := (b.block _ (by omega) (by omega)).trans ((a0.block _ (by omega) (by omega)).trans mA)
    have e2 : W.heap[w.heap.size + 1]? = some (.cells #[.func (.func k) rs caps] 37) := (b.block _ (by omega) (by omega)).trans ((a0.block _ (by omega) (by omega)).trans mB)
    simp [World.cell?, e1, e2]
  obtain ⟨d1, d2⟩ := HC.out _ (KeptR.refl _ _)
  have CW := want_any h0 sPo
  have hmm := @run_makeMap Tryz.prog
  unfold paramsG
  cases hq : isS L a sPo with
  | false =>
    rw [wantR_no hq] at *
    rw [Rs.bind_bad]
    unfold AnsN
    unfold AnsU sPo at CW
    go_enter Tryz.func69, Tryz.ntmps69
    go_wp2_with (go_at_call 60; refine CW.mono ?_; rintro e W1 ⟨rfl, b1⟩)
    exact ⟨rfl, rfl, kw.trans b1⟩
  | true =>
    rw [wantR_yes hq] at *
    rw [Rs.bind_ok]
    unfold AnsU sPo at CW
    have HL : Hid (∀ W0, Rd W0 P L (a + 1) o → KeptR P.R (wA.alloc zN) W0 → Calls Tryz.prog 92 #[.pointer (some ⟨P.R, 0, none⟩), .string ⟨#[41]⟩, .func (.func 93) #[] #[.pointer (some ⟨w.heap.size, 0, none⟩), .pointer (some ⟨W0.heap.size + 1, 0, none⟩), .pointer (some ⟨w.heap.size + 1, 0, none⟩)]]
        ((W0.alloc (.map #[] 0)).alloc (.cells #[.map (some W0.heap.size)] 89)) (AnsL P L o W0.heap.size ((W0.alloc (.map #[] 0)).alloc (.cells #[.map (some W0.heap.size)] 89)) (listG L sPc (parG L G) (L.length + 1 - (a + 1)) [] [] (a + 1)))) := fun W0 r0 b0 => by
      obtain ⟨WL, hWL⟩ : ∃ W, ((W0.alloc (.map #[] 0)).alloc (.cells #[.map (some W0.heap.size)] 89)) = W := ⟨_, rfl⟩
      rw [hWL]
      have s0 := b0.size
      have sL : WL.heap.size = W0.heap.size + 2 := by rw [← hWL]; simp [World.setCell]
      have bL : Below W0.heap.size W0 WL := by rw [← hWL]; exact ((Below.refl _ _).alloc (Nat.le_refl _) _).alloc (by simp) _
      have mL : WL.heap[W0.heap.size]? = (W0.alloc (.map #[] 0)).heap[W0.heap.size]? := by rw [← hWL]; exact Below.heap_alloc _ _ _ (by simp)
      have cL : WL.cell? ⟨W0.heap.size + 1, 0, none⟩ = some (.map (some W0.heap.size)) := by
        have : WL.heap[W0.heap.size + 1]? = some (.cells #[.map (some W0.heap.size)] 89) := by rw [← hWL]; exact hnew _ (by simp)
        simp [World.cell?, this]
      obtain ⟨f1, f2⟩ := HC.out _ b0
      have r0l := r0.lt
      refine list_any (σ := List (List UInt8)) (k := 93) (rs := #[]) eg_par (parG L G) (fun ns W => ParI P w.heap.size (W0.heap.size + 1) (w.heap.size + 1) W0.heap.size (.func (.func k) rs caps) ns W) (fun ns b => ns.length ≤ b) W0.heap.size WL (a + 1) [] (r0.bel bL) (by simp) ⟨(bL.cell (p := ⟨w.heap.size, 0, none⟩) (by show w.heap.size < _; omega)).trans f1, cL, (bL.cell (p := ⟨w.heap.size + 1, 0, none⟩) (by show w.heap.size + 1 < _; omega)).trans f2, (NM.nil W0).keep mL, by simp⟩ (by omega) (fun st a x b hF => (parG_ok hmono hF).1) (fun st b x a1 c h1 h2 h3 => by have := parG_ok hmono h2; omega) (fun st W W' hI h1 h2 hb => ?_) (fun W st b hb hJ r hI hsz hk => ?_)
      · exact hI.keep (hb _ (by omega) (by omega)) (hb _ (by omega) (by omega)) (hb _ (by omega) (by omega)) (hb _ (by omega) (by omega))
      · simp only [Array.empty_append]
        exact par_any eg G r hI hs (by omega) (fun q => by have := hbl0 q; omega) ⟨by omega, by omega⟩ ⟨by omega, by omega⟩ ⟨by omega, by omega⟩ hJ (fun W c hc r => hT W c (by omega) r)
    clear hT
    generalize listG L sPc (parG L G) (L.length + 1 - (a + 1)) [] [] (a + 1) = res at *
    cases res with
    | bad p er =>
      rw [Rs.bind_bad]
      unfold AnsL at HL
      unfold AnsN
      go_enter Tryz.func69, Tryz.ntmps69
      go_wp2_with (first
        | (go_at_call 60; refine CW.mono ?_; rintro e W0 ⟨rfl, r0, b0⟩; obtain ⟨d3, d4⟩ := HC.out _ b0; have s0 := b0.size; have d5 := ((((Below.refl W0.heap.size W0).alloc (Nat.le_refl _) (.map #[] 0)).alloc (by simp) (.cells #[.map (some W0.heap.size)] 89)).cell (p := ⟨w.heap.size, 0, none⟩) (by show w.heap.size < W0.heap.size; omega)).trans d3)
        | (go_at_call 92; refine (HL.out _ r0 b0).mono ?_; rintro e W2 ⟨rfl, b2⟩))
      have bL := ((Below.refl W0.heap.size W0).alloc (Nat.le_refl _) (.map #[] 0)).alloc (by simp) (.cells #[.map (some W0.heap.size)] 89)
      exact ⟨rfl, rfl, Kept2.late ((kw.trans b0).trans (.of bL)) b2 (by omega)⟩
    | ok l a2 =>
      rw [Rs.bind_ok]
      unfold AnsL at HL
      have HM2 : Hid (∀ W0, KeptR P.R (wA.alloc zN) W0 → ∀ W2, Kept2 P.R W0.heap.size ((W0.alloc (.map #[] 0)).alloc (.cells #[.map (some W0.heap.size)] 89)) W2 → KeptR P.R (wA.alloc zN) W2) := fun W0 b0 W2 b2 => by
        have bL := ((Below.refl W0.heap.size W0).alloc (Nat.le_refl _) (.map #[] 0)).alloc (by simp) (.cells #[.map (some W0.heap.size)] 89)
        exact Kept2.late (b0.trans (.of bL)) b2 b0.size
      go_enter Tryz.func69, Tryz.ntmps69
      go_wp2_with (first
        | (go_at_call 60; refine CW.mono ?_; rintro e W0 ⟨rfl, r0, b0⟩; obtain ⟨d3, d4⟩ := HC.out _ b0; have s0 := b0.size; have d5 := ((((Below.refl W0.heap.size W0).alloc (Nat.le_refl _) (.map #[] 0)).alloc (by simp) (.cells #[.map (some W0.heap.size)] 89)).cell (p := ⟨w.heap.size, 0, none⟩) (by show w.heap.size < W0.heap.size; omega)).trans d3)
        | (go_at_call 92; refine (HL.out _ r0 b0).mono ?_; rintro e W2 ⟨ad, c, rfl, l2, r2, b2⟩; have k2 := HM2.out _ b0 _ b2)
        | (go_at_call 35; refine (node_any 12 ⟨#[]⟩ ad l.length c _).mono ?_; rintro e W3 ⟨rfl, b3⟩; have m3 := M0.out _ (k2.trans (.of b3)); rw [sA] at m3; obtain ⟨⟨_, _, _, _⟩, _, _, _, _⟩ := t4 m3))
      refine bodyPost_ret (res_n4 Tryz.results69 (t4_set _ _ _ _ m3) rfl) rfl ?_
      have hbl : 0 < L.length → P.bl ≠ w.heap.size + 2 := fun q => by have := hbl0 q; omega
      have kf : KeptR P.R w W3 := (kw.trans k2).trans (.of b3)
      refine ⟨ad, c, rfl, (l2.bel b3 |>.mono (T := fun b => w.heap.size + 3 ≤ b) (fun b hb => by simp at hb; omega)).set4 (by omega) (by omega) _ _ _ _, (r2.bel b3).set4 (by omega) hbl _ _ _ _, (((kf.new (by omega) _ _).new (by omega) _ _).new (by omega) _ _).new (by omega) _ _⟩
end Go.Proofs.YtmfgcaffdkakhaaGreat
