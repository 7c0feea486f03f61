/- Own text. A loop over what goes over a tree: from the iterator's own contract to the statement. -/
import Derived.Test.YtggahoefbcnaiaaDoorT8
namespace Go.Proofs.YtggahoefbcnaiaaDoor
open Go.RowKit
set_option linter.unusedVariables false

/-- a round that is told 'args' at place k, all from lo on being new for it: it goes on and keeps T and what lies from m to lo, or it leaves. -/
def RndG (G : Nat → Nat → Array Value → World → Prop) (T : Nat → Prop) (l m : Nat) (J Jx : Nat → World → Prop) : Prop :=
  ∀ k lo args W, G k lo args W → m ≤ lo → lo ≤ W.heap.size → J k W →
    YieldAt Fence.wide 0 Tryd.prog l args W fun e W' =>
      (e = .returned (.bool true) ∧ J (k + 1) W' ∧ W.heap.size ≤ W'.heap.size ∧ ∀ c, c < lo → (T c ∨ m ≤ c) → W'.heap[c]? = W.heap[c]?) ∨ (e = .returned (.bool false) ∧ Jx k W')

/-- what the body of such a loop leaves. B: from there on the loop's own blocks lie. -/
def PostR (B : Nat) (T : Nat → Prop) (lo k : Nat) (J : Nat → World → Prop) (Jx : Code → Nat → World → Prop) (W : World) : Exit → Act → World → Prop
  | .normal, _, W' => J (k + 1) W' ∧ W.heap.size ≤ W'.heap.size ∧ ∀ c, c < lo → (T c ∨ B ≤ c) → W'.heap[c]? = W.heap[c]?
  | .ret, _, W' => Jx .ret k W' ∧ W.heap.size ≤ W'.heap.size ∧ ∀ c, c < lo → B ≤ c → W'.heap[c]? = W.heap[c]?
  | .exit id, _, W' => Jx (.exit id) k W' ∧ W.heap.size ≤ W'.heap.size ∧ ∀ c, c < lo → B ≤ c → W'.heap[c]? = W.heap[c]?
  | .goto t, _, W' => Jx (.goto t) k W' ∧ W.heap.size ≤ W'.heap.size ∧ ∀ c, c < lo → B ≤ c → W'.heap[c]? = W.heap[c]?
  | .panic _, _, _ => False
  | .outgrown, _, _ => False

theorem below_put {B : Nat} {W : World} {l : Nat} (o : Obj) (hl : B ≤ l) : Below B W (W.putObj l o) := by
  refine ⟨rfl, rfl, rfl, ?_, fun c hc => World.putObj_heap_other (by omega)⟩
  simp [World.putObj]
theorem put_size {W : World} {l : Nat} (o : Obj) : (W.putObj l o).heap.size = W.heap.size := by simp [World.putObj]

set_option maxHeartbeats 1000000 in
theorem range_law {g : Operand} {ps : Array Tmp} {assign body : Code} {Q : Exit → Act → World → Prop} {a : Act} {w : World} {gf : Nat} {lb : Array Value} (hg : a.eval g = .func (.func gf) #[] lb) (eg : ∀ args w, (callFunc gf args).run Tryd.prog w = .ok (.enter gf args) w)
    (G : Nat → Nat → Array Value → World → Prop) (T : Nat → Prop) (N : Nat) (hps : ∀ k lo args W, G k lo args W → args.size = ps.size) (hT : ∀ b, T b → b < w.heap.size)
    (hit : ∀ (l : Nat) (J Jx : Nat → World → Prop) (W1 : World), Below w.heap.size w W1 → (∀ k X Z, J k X → Below W1.heap.size X Z → J k Z) → RndG G T l W1.heap.size J Jx → J 0 W1 →
      Calls Tryd.prog gf (#[.func (.yield l) #[] #[]] ++ lb) W1 fun e W' => (∃ v, e = .returned v) ∧ (J N W' ∨ ∃ k', Jx k' W'))
    (J : Nat → World → Prop) (Jx : Code → Nat → World → Prop) (hJ : ∀ k X Z, J k X → Below w.heap.size X Z → J k Z) (hJx : ∀ c k X l r o, Jx c k X → w.heap.size ≤ l → X.heap[l]? = some (.loop r) → Jx c k (X.putObj l o)) (h0 : J 0 w)
    (Ax : Nat → Nat → Array Value → Act → World → Prop)
    (hassign : ∀ (l k lo : Nat) (args : Array Value) (W : World) (K : Act → World → Prop), G k lo args W → J k W → lo ≤ W.heap.size → (∀ a' W', Below W.heap.size W W' → Ax k lo args a' W' → K a' W') →
      assign.wpIn (Fence.wide.inRound l) 8 Tryd.prog (Exit.then K (fun _ _ _ => False)) { tmps := (ps.zip args).foldl (fun t (p, v) => t.setIfInBounds p v) a.tmps, defers := [] } W)
    (hbody : ∀ (l k lo : Nat) (args : Array Value) (a' : Act) (W Wa W2 : World), G k lo args W → J k W → lo ≤ W.heap.size → Below W.heap.size W Wa → Ax k lo args a' Wa → w.heap.size ≤ l → l < lo → (∀ c, c ≠ l → W2.heap[c]? = Wa.heap[c]?) → W2.heap.size = Wa.heap.size → (∃ r, W2.heap[l]? = some (.loop r)) → Below w.heap.size W W2 →
      body.wpIn (Fence.wide.inRound l) 8 Tryd.prog (PostR w.heap.size T lo k J Jx W2) a' W2)
    (hdone : ∀ (D : Nat) (W : World), w.heap.size ≤ D → J N W → W.heap[D]? = some (.deferred (some [])) → Q .normal { a with defers := { target := .collected D, args := #[] } :: a.defers } W)
    (hstop : ∀ (D : Nat) (c : Code) (k : Nat) (W : World), w.heap.size ≤ D → Jx c k W → W.heap[D]? = some (.deferred (some [])) → c.wpIn Fence.wide 10 Tryd.prog Q { a with defers := { target := .collected D, args := #[] } :: a.defers } W) :
    (Code.rangeFunc g ps assign body).wpIn Fence.wide 10 Tryd.prog Q a w := by
  refine wpIn_rangeFunc ?_
  intro fn hfn
  rw [show Fence.wide.round = none from rfl]
  obtain ⟨rec, hrec⟩ : ∃ rec : LoopState → Option Code → Loop, rec = fun st pe => { state := st, pending := pe, fn, tmps := a.tmps, params := ps, assign, body, defers := w.heap.size } := ⟨_, rfl⟩
  obtain ⟨W1, hW1⟩ : ∃ W1, (w.alloc (.deferred (some []))).alloc (.loop (rec .ready none)) = W1 := ⟨_, rfl⟩
  have hL1 : W1.heap[w.heap.size + 1]? = some (.loop (rec .ready none)) := by rw [← hW1]; exact hnew _ (by simp)
  have hK1 : W1.heap[w.heap.size]? = some (.deferred (some [])) := by rw [← hW1]; exact hold _ (by simp) (hnew _ rfl)
  have hs1 : W1.heap.size = w.heap.size + 2 := by rw [← hW1]; simp
  have hb1 : Below w.heap.size w W1 := by rw [← hW1]; exact (bel_a _ _).alloc (by simp) _
  refine ⟨w.heap.size + 1, [{ target := .collected w.heap.size, args := #[] }], W1, { target := .fn (.func gf) lb, args := #[.func (.yield (w.heap.size + 1)) #[] #[]] }, W1, gf,
    #[.func (.yield (w.heap.size + 1)) #[] #[]] ++ lb, W1, ?_, ?_, ?_, ?_, fun _ => (by omega), ?_⟩
  · rw [← hW1, hrec]; exact run_enterLoop_outer _ _ _ _ _
  · simp only [resolve, hg]
    simp [go_sem]
  · intro f' hf'; trivial
  · simp [invoke, go_sem, eg]
  · refine callsIn_wide.2 ?_
    refine (hit (w.heap.size + 1)
      (fun k W => J k W ∧ W.heap[w.heap.size + 1]? = some (.loop (rec .ready none)) ∧ W.heap[w.heap.size]? = some (.deferred (some [])))
      (fun k W => ∃ c, Jx c k W ∧ W.heap[w.heap.size + 1]? = some (.loop (rec .done (some c))) ∧ W.heap[w.heap.size]? = some (.deferred (some [])))
      W1 hb1 (fun k X Z hX hB => ⟨hJ k X Z hX.1 (hB.mono (by omega)), (hB.block _ (by omega)).trans hX.2.1, (hB.block _ (by omega)).trans hX.2.2⟩) ?_ ⟨hJ _ _ _ h0 hb1, hL1, hK1⟩).mono ?_
    · rintro k lo args W hG hm hlo ⟨hj, hl, hd⟩
      have hlt : w.heap.size + 1 < W.heap.size := (Array.getElem?_eq_some_iff.1 hl).1
      have hy := run_yield (P := Tryd.prog) (args := args) hl (by rw [hrec]; exact hps k lo args W hG)
      rw [hrec] at hy
      refine ⟨fn, _, assign, body, hy, ?_⟩
      have hRd : RoundIn Fence.wide 8 Tryd.prog (w.heap.size + 1) fn ((ps.zip args).foldl (fun t (p, v) => t.setIfInBounds p v) a.tmps) assign body W fun e W' =>
          (e = .returned (.bool true) ∧ (J (k + 1) W' ∧ W'.heap[w.heap.size + 1]? = some (.loop (rec .ready none)) ∧ W'.heap[w.heap.size]? = some (.deferred (some []))) ∧ W.heap.size ≤ W'.heap.size ∧ ∀ c, c < lo → (T c ∨ W1.heap.size ≤ c) → W'.heap[c]? = W.heap[c]?) ∨
          (e = .returned (.bool false) ∧ ∃ c, Jx c k W' ∧ W'.heap[w.heap.size + 1]? = some (.loop (rec .done (some c))) ∧ W'.heap[w.heap.size]? = some (.deferred (some []))) := by
        refine roundIn_of_wpIn hfn (hassign _ k lo args W _ hG hj hlo ?_)
        clear hy
        intro a' Wa hba hax
        have hla := (hba.block _ hlt).trans hl
        have hda := (hba.block w.heap.size (by omega)).trans hd
        have hsa := hba.size
        have hlta : w.heap.size + 1 < Wa.heap.size := (Array.getElem?_eq_some_iff.1 hla).1
        refine ⟨_, run_beginRound hla (by rw [hrec]), ?_⟩
        obtain ⟨W2, hW2⟩ : ∃ W2, Wa.putObj (w.heap.size + 1) (.loop { rec .ready none with state := .busy }) = W2 := ⟨_, rfl⟩
        have hl2 : W2.heap[w.heap.size + 1]? = some (.loop { rec .ready none with state := .busy }) := by rw [← hW2]; exact World.putObj_heap_same hlta
        have ho2 : ∀ c, c ≠ w.heap.size + 1 → W2.heap[c]? = Wa.heap[c]? := fun c hc => by rw [← hW2]; exact World.putObj_heap_other hc
        have hs2 : W2.heap.size = Wa.heap.size := by rw [← hW2]; exact put_size _
        have hb2 : Below w.heap.size W W2 := (hba.mono (by omega)).trans (by rw [← hW2]; exact below_put _ (by omega))
        rw [hW2]
        have hd2 := (ho2 w.heap.size (by omega)).trans hda
        refine wpIn_mono (hbody _ k lo args a' W Wa W2 hG hj hlo hba hax (by omega) (by omega) ho2 hs2 ⟨_, hl2⟩ hb2) ?_
        have fin : ∀ (jump : Option Code) (W3 : World), W3.heap[w.heap.size + 1]? = some (.loop { rec .ready none with state := .busy }) →
            (Instr.endRound (w.heap.size + 1) jump).run Tryd.prog W3 = .ok (.bool jump.isNone) (W3.putObj (w.heap.size + 1) (.loop (rec (if jump.isNone then .ready else .done) jump))) ∧
            (W3.putObj (w.heap.size + 1) (.loop (rec (if jump.isNone then .ready else .done) jump))).heap[w.heap.size + 1]? = some (.loop (rec (if jump.isNone then .ready else .done) jump)) := fun jump W3 hl3 => by
          have := run_endRound (P := Tryd.prog) jump hl3
          rw [hrec] at this ⊢
          exact ⟨this, World.putObj_heap_same (Array.getElem?_eq_some_iff.1 hl3).1⟩
        have leave : ∀ (c : Code) (W3 : World), Jx c k W3 → (∀ b, b < lo → w.heap.size ≤ b → W3.heap[b]? = W2.heap[b]?) → ∃ v w', (Instr.endRound (w.heap.size + 1) (some c)).run Tryd.prog W3 = .ok v w' ∧
            ((Ending.returned v = .returned (.bool true) ∧ (J (k + 1) w' ∧ w'.heap[w.heap.size + 1]? = some (.loop (rec .ready none)) ∧ w'.heap[w.heap.size]? = some (.deferred (some []))) ∧ W.heap.size ≤ w'.heap.size ∧ ∀ c, c < lo → (T c ∨ W1.heap.size ≤ c) → w'.heap[c]? = W.heap[c]?) ∨
             (Ending.returned v = .returned (.bool false) ∧ ∃ c, Jx c k w' ∧ w'.heap[w.heap.size + 1]? = some (.loop (rec .done (some c))) ∧ w'.heap[w.heap.size]? = some (.deferred (some [])))) := fun c W3 hx hkp => by
          obtain ⟨hr, hl4⟩ := fin (some c) W3 ((hkp _ (by omega) (by omega)).trans hl2)
          exact ⟨_, _, hr, .inr ⟨rfl, c, hJx _ _ _ _ _ _ hx (by omega) ((hkp _ (by omega) (by omega)).trans hl2), hl4, (World.putObj_heap_other (by omega)).trans ((hkp _ (by omega) (by omega)).trans hd2)⟩⟩
        rintro e a3 W3 hp
        cases e with
        | normal =>
          obtain ⟨hj3, hs3, hkp⟩ := hp
          obtain ⟨hr, hl4⟩ := fin none W3 ((hkp _ (by omega) (.inr (by omega))).trans hl2)
          refine ⟨_, _, hr, .inl ⟨rfl, ⟨hJ _ _ _ hj3 (below_put _ (by omega)), hl4, (World.putObj_heap_other (by omega)).trans ((hkp _ (by omega) (.inr (by omega))).trans hd2)⟩, by rw [put_size]; omega, fun c hc hcm => ?_⟩⟩
          have hne : c ≠ w.heap.size + 1 := by
            rcases hcm with h | h
            · have := hT c h; omega
            · omega
          exact (World.putObj_heap_other hne).trans ((hkp c hc (hcm.elim .inl (fun h => .inr (by omega)))).trans ((ho2 c hne).trans (hba.block c (by omega))))
        | ret => exact leave .ret W3 hp.1 hp.2.2
        | exit id => exact leave (.exit id) W3 hp.1 hp.2.2
        | goto t => exact leave (.goto t) W3 hp.1 hp.2.2
        | panic ch => exact hp.elim
        | outgrown => exact hp.elim
      exact ⟨hRd.1, fun c cs _ => hRd.2 c cs (room_wide _)⟩
    · rintro e W2 ⟨⟨v, rfl⟩, (⟨hj, hl, hk⟩ | ⟨k, c, hx, hl, hk⟩)⟩
      · exact ⟨none, _, by have := run_endLoop (P := Tryd.prog) hl (by rw [hrec]; simp); rw [hrec] at this; exact this, hdone _ _ (Nat.le_refl _) (hJ _ _ _ hj (below_put _ (by omega))) ((World.putObj_heap_other (by omega)).trans hk)⟩
      · exact ⟨some c, _, by have := run_endLoop (P := Tryd.prog) hl (by rw [hrec]; simp); rw [hrec] at this; exact this, hstop _ c k _ (Nat.le_refl _) (hJx _ _ _ _ _ _ hx (by omega) hl) ((World.putObj_heap_other (by omega)).trans hk)⟩
end Go.Proofs.YtggahoefbcnaiaaDoor
