/- Own text. What goes over a tree tells all places and trees: the law's own walk. -/
import Derived.Test.YtggahoefbcnaiaaDoorW5A
import Derived.Test.YtggahoefbcnaiaaDoorNBx
import Derived.Sort.CutIn
namespace Go.Proofs.YtggahoefbcnaiaaDoor.Walks
open Go.RowKit
set_option linter.unusedVariables false
set_option linter.unusedSimpArgs false
attribute [local go_sem] Oper.semAt_some

set_option maxRecDepth 100000 in
set_option maxHeartbeats 16000000 in
theorem walk (x : Nd) (vx : Value) (leave : Int) (w : World) (hx : LAt w (fun b => b < w.heap.size) vx x.ks) (zx : x.size ≤ 1048576) (tx : ∀ z ∈ x.flat, z.t.size ≤ 1048576) (hi0 : -9223372036854775808 ≤ leave) (hi1 : leave ≤ 9223372036854775807) (he : WEnv w) :
    Calls Tryd.prog 7 #[x.v vx, .int .i64 leave] w fun e w' => e = .returned (.bool true) ∧ Below w.heap.size w w' := by
  have tx' : x.tx := fun z hz => Nat.le_trans (tx z hz) (by decide)
  obtain ⟨ax, cx, rfl⟩ := hx.sl
  have zx4 : x.size ≤ 4194304 := by omega
  have FL : Hid (x.flat.length = x.size) := x.flat_len
  have spos := x.size_pos
  have CF : Hid (∀ W, Below w.heap.size w W → Calls Tryd.prog 20 #[.agg #[Value.int IntKind.i64 x.k, Value.string x.t, Value.int IntKind.i64 x.n, Value.slice ax x.ks.length cx], .slice none 0 0] W fun e w' => ∃ bl c, e = .returned (.slice (some ⟨bl, 0, none⟩) x.flat.length c) ∧ bl < w'.heap.size ∧ (∀ k (hk : k < x.flat.length), ∃ a' c', Four w' bl (k * 4) x.flat[k] (.slice a' x.flat[k].ks.length c') ∧ LAt w' (fun b => b < w.heap.size) (.slice a' x.flat[k].ks.length c') x.flat[k].ks) ∧ Below W.heap.size W w') := fun W b => flat_allS x W _ _ (hx.bel b) zx4
  have CA : Hid (∀ W, Below w.heap.size w W → Calls Tryd.prog 24 #[.agg #[Value.int IntKind.i64 x.k, Value.string x.t, Value.int IntKind.i64 x.n, Value.slice ax x.ks.length cx]] W fun e w' => ∃ B a c, e = .returned (.func (.func 40) #[] #[.pointer (some ⟨B, 0, none⟩)]) ∧ Bx w' B x a c ∧ W.heap.size ≤ B ∧ LAt w' (fun b => W.heap.size ≤ b ∧ b < B) (.slice a x.ks.length c) x.ks ∧ Below W.heap.size W w') := fun W b => all_any x W _ _ (hx.bel b) zx4 tx'
  have AW : Hid (∀ W, Below w.heap.size w W → Calls Tryd.prog 13 #[] W fun e w' => e = .returned (.bool true) ∧ Below W.heap.size W w') := fun W b => awake_any W (he.bel b)
  have SM : Hid (∀ (y : Nd) W S T a c a' c', y.size ≤ 4194304 → LAt W S (.slice a y.ks.length c) y.ks → LAt W T (.slice a' y.ks.length c') y.ks → Calls Tryd.prog 12 #[.agg #[Value.int IntKind.i64 y.k, Value.string y.t, Value.int IntKind.i64 y.n, Value.slice a y.ks.length c], .agg #[Value.int IntKind.i64 y.k, Value.string y.t, Value.int IntKind.i64 y.n, Value.slice a' y.ks.length c']] W fun e w' => e = .returned (.bool true) ∧ Below W.heap.size W w') := fun y W S T a c a' c' z l l' => (rsame_any y y W _ _ _ _ l l' z z).mono (by rintro e w' ⟨b, rfl, hb, bb⟩; exact ⟨by rw [hb.2 rfl], bb⟩)
  have nx : Hid (∀ W' W'', Below w.heap.size w W' → Below W'.heap.size W' W'' → Below w.heap.size w W'') := fun W' W'' b b' => b.trans (b'.mono b.size)
  clear hx tx he
  unfold Nd.v
  refine (callsIn_wide (n := 10)).1 ?_
  refine callsIn_of_wp_marks Tryd.func7 rfl trivial ?_ rfl
  simp only [Tryd.ntmps7, List.size_toArray, List.length_cons, List.length_nil, Nat.reduceAdd, Nat.reduceSub, Array.replicate_succ, Array.replicate_zero, List.push_toArray, List.append_toArray, List.nil_append, List.cons_append]
  obtain ⟨W0, hW0⟩ : ∃ W, (((w.alloc (Obj.cells #[Value.int IntKind.i64 x.k, Value.string x.t, Value.int IntKind.i64 x.n, Value.slice ax x.ks.length cx] 24)).alloc (Obj.cells #[Value.int IntKind.i64 leave] 3)).alloc (Obj.cells #[Value.bool false] 4)) = W := ⟨_, rfl⟩
  have B0 : Below w.heap.size w W0 := by rw [← hW0]; exact ((bel_a _ _).alloc (by simp) _).alloc (by simp <;> omega) _
  have X0 : Bx W0 w.heap.size x ax cx := by rw [← hW0]; exact ((Bx.new w x ax cx).bel (bel_a _ _)).bel (bel_a _ _)
  have L0 : ∃ t, W0.heap[w.heap.size + 1]? = some (.cells #[.int .i64 leave] t (0, 0)) := by rw [← hW0]; exact ⟨_, hold _ (by simp) (hnew _ (by simp))⟩
  have R0 : ∃ t, W0.heap[w.heap.size + 1 + 1]? = some (.cells #[.bool false] t (0, 0)) := by rw [← hW0]; exact ⟨_, hnew _ (by simp)⟩
  obtain ⟨_, _, _, _⟩ := X0.cs
  have kx : Hid (∀ W', Below W0.heap.size W0 W' → (W'.cell? ⟨w.heap.size, 0, none⟩ = some (.int .i64 x.k) ∧ W'.cell? ⟨w.heap.size, 1, none⟩ = some (.string x.t) ∧ W'.cell? ⟨w.heap.size, 2, none⟩ = some (.int .i64 x.n) ∧ W'.cell? ⟨w.heap.size, 3, none⟩ = some (.slice ax x.ks.length cx))) := fun W' b => (X0.bel b).cs
  have nx0 : Hid (∀ W' W'', Below W0.heap.size W0 W' → Below W'.heap.size W' W'' → Below W0.heap.size W0 W'') := fun W' W'' b b' => b.trans (b'.mono b.size)
  have up : Hid (∀ W', Below W0.heap.size W0 W' → Below w.heap.size w W') := fun W' b => nx.out _ _ B0 b
  have n0 := Nat.lt_of_lt_of_le X0.lt (Nat.le_refl _)
  gi_wp2_with (first
    | (refine ⟨trivial, ?_⟩; gi_at_call 20; refine (callsIn_wide.2 (CF.out _ B0)).mono ?_; rintro e W1 ⟨bl, cap, rfl, hbl, hfl, b1⟩; obtain ⟨V1, hV1⟩ : ∃ W, W1.alloc (Obj.cells #[Value.slice (some ⟨bl, 0, none⟩) x.flat.length cap] 22) = W := ⟨_, rfl⟩; have b1' : Below W1.heap.size W1 V1 := (by rw [← hV1]; exact bel_a _ _); have E5 : ∃ t, V1.heap[W1.heap.size]? = some (.cells #[.slice (some ⟨bl, 0, none⟩) x.flat.length cap] t (0, 0)) := (by rw [← hV1]; exact ⟨_, hnew _ rfl⟩); have D1 := nx0.out _ _ b1 b1'; obtain ⟨_, _, _, _⟩ := kx.out _ D1)
    | (refine ⟨trivial, ?_⟩; gi_at_call 24; refine (callsIn_wide.2 (CA.out _ (up.out _ D1))).mono ?_; rintro e W2 ⟨B, aB, cB, rfl, hB, hBn, lB, b2⟩; obtain ⟨V2, hV2⟩ : ∃ W, W2.alloc (Obj.cells #[Value.func (Fn.func 40) #[] #[Value.pointer (some ⟨B, 0, none⟩)]] 38) = W := ⟨_, rfl⟩; have b2' : Below W2.heap.size W2 V2 := (by rw [← hV2]; exact bel_a _ _); have E6 : ∃ t, V2.heap[W2.heap.size]? = some (.cells #[.func (.func 40) #[] #[.pointer (some ⟨B, 0, none⟩)]] t (0, 0)) := (by rw [← hV2]; exact ⟨_, hnew _ rfl⟩); have D2 := nx0.out _ _ (nx0.out _ _ D1 b2) b2'; obtain ⟨f6, _⟩ := box1 E6; have nc := nilcmp B)
    | (refine ⟨trivial, ?_⟩; gi_at_call 13; refine (callsIn_wide.2 (AW.out _ (up.out _ D2))).mono ?_; rintro e W3 ⟨rfl, b3⟩; have E6' := box1_of E6 (b3.block _ (box1_lt E6)); have al6 := fun o => (box1 (box1_of E6' ((bel_a W3 o).block _ (box1_lt E6')))).1))
  obtain ⟨V3, hV3⟩ : ∃ W, W3.alloc (Obj.cells #[Value.int IntKind.i64 0] 3) = W := ⟨_, rfl⟩
  have b3' : Below W3.heap.size W3 V3 := by rw [← hV3]; exact bel_a _ _
  have E7 : ∃ t, V3.heap[W3.heap.size]? = some (.cells #[.int .i64 0] t (0, 0)) := by rw [← hV3]; exact ⟨_, hnew _ rfl⟩
  have D3 := nx0.out _ _ (nx0.out _ _ D2 b3) b3'
  rw [hV3]
  have k12 : Below V1.heap.size V1 V3 := (b2.trans (b2'.mono b2.size)).trans ((b3.trans (b3'.mono b3.size)).mono (Nat.le_trans b2.size b2'.size))
  have k22 : Below W2.heap.size W2 V3 := b2'.trans ((b3.trans (b3'.mono b3.size)).mono b2'.size)
  have z1 : W1.heap.size < V1.heap.size := box1_lt E5
  have z2 : W2.heap.size < V2.heap.size := box1_lt E6
  have z7 : W3.heap.size < V3.heap.size := box1_lt E7
  have zB := hB.lt
  have zb3 := b3.size
  have zb2 := b2.size
  have zb1 := b1.size
  have zl0 := box1_lt L0
  have zr0 := box1_lt R0
  have hws : WS V3 x leave (w.heap.size + 1) (w.heap.size + 1 + 1) W1.heap.size W2.heap.size W3.heap.size bl cap B w.heap.size V1.heap.size := by
    refine ⟨box1_of L0 (D3.block _ zl0), box1_of R0 (D3.block _ zr0), box1_of E5 (k12.block _ z1), box1_of E6' (b3'.block _ (box1_lt E6')), fun k hk => ?_, ?_⟩
    · obtain ⟨a', c', h1, h2⟩ := hfl k hk
      have kk : Below W1.heap.size W1 V3 := b1'.trans (k12.mono b1'.size)
      exact ⟨a', c', h1.of_block (kk.block _ hbl), h2.bel kk⟩
    · obtain ⟨c0, c1, c2, c3⟩ := (hB.bel k22).cs
      exact ⟨_, ⟨hBn, Nat.le_refl _⟩, ⟨c0, c1, c2, c3⟩, (lB.bel k22).mono (fun b hb => ⟨hb.1, Nat.le_of_lt hb.2⟩)⟩
  have BW := up.out _ D3
  have ord : (w.heap.size + 1) < W3.heap.size ∧ (w.heap.size + 1 + 1) < W3.heap.size ∧ W1.heap.size < W3.heap.size ∧ W2.heap.size < W3.heap.size ∧ bl < W3.heap.size ∧ B < W3.heap.size ∧ w.heap.size ≤ W3.heap.size := by
    have := b1'.size; have := b2'.size; have := D1.size
    exact ⟨by omega, by omega, by omega, by omega, by omega, by omega, by omega⟩
  have nAB : V1.heap.size ≤ B := hBn
  have nAn : w.heap.size + 1 + 1 < V1.heap.size := by have := D1.size; omega
  have p5A : W1.heap.size < V1.heap.size := z1
  clear hV3 hV2 hV1 hW0 E5 E6 E6' hfl lB hB b1 b1' b2 b2' b3 b3' D1 D2 D3 k12 k22 kx up nx0 X0 L0 R0 f6 al6 nc CF CA AW B0
  generalize V1.heap.size = nA at *
  generalize W1.heap.size = p5 at *
  generalize W2.heap.size = p6 at *
  generalize hp7 : W3.heap.size = p7 at *
  clear hp7
  have hT : ∀ b, (nA ≤ b ∧ b ≤ B) → b < V3.heap.size := fun b hb => by omega
  refine range_law2 (gf := 40) (lb := #[.pointer (some ⟨B, 0, none⟩)]) rfl (enters_of Tryd.func40 (by kernel_rfl) rfl) (AllG V3 (fun b => nA ≤ b ∧ b ≤ B) x) (fun b => nA ≤ b ∧ b ≤ B) x.size (by rintro k lo args W ⟨y, a, c, rfl, _⟩; rfl) hT
    (all_it hws.hN hT zx4 tx')
    (fun k W => Below p7 V3 W ∧ (∃ t, W.heap[p7]? = some (.cells #[.int .i64 (k : Nat)] t (0, 0))) ∧ (leave < 1 ∨ (k : Int) < leave))
    (fun c k W => c = .exit 0 ∧ Below p7 V3 W ∧ (∃ t, W.heap[p7]? = some (.cells #[.int .i64 ((k + 1 : Nat) : Int)] t (0, 0))) ∧ ((k + 1 : Nat) : Int) = leave)
    (fun k X Z h hB => ⟨h.1.trans (hB.mono (by omega)), box1_of h.2.1 (hB.block _ z7), h.2.2⟩)
    (fun c k X Z h hB => ⟨h.1, h.2.1.trans (hB.mono (by omega)), box1_of h.2.2.1 (hB.block _ z7), h.2.2.2⟩) ⟨Below.refl _ _, E7, by omega⟩
    (fun k lo args a' W' => ∃ (y : Nd) (a : Option Addr) (c pX : Nat), x.flat[k]? = some y ∧ Bx W' pX y a c ∧ lo ≤ pX ∧ Sep W' (fun b => lo ≤ b ∧ b < pX) (.slice a y.ks.length c) y.ks ∧ a' = { tmps := #[Value.agg #[Value.int IntKind.i64 x.k, Value.string x.t, Value.int IntKind.i64 x.n, Value.slice ax x.ks.length cx], Value.int IntKind.i64 leave, Value.pointer (some { block := w.heap.size, off := 0 }), Value.pointer (some { block := w.heap.size + 1, off := 0 }), Value.pointer (some { block := w.heap.size + 1 + 1, off := 0 }), Value.pointer (some { block := p5, off := 0 }), Value.pointer (some { block := p6, off := 0 }), Value.pointer (some { block := p7, off := 0 }), .int .i64 (k : Nat), .pointer (some ⟨pX, 0, none⟩), undef, undef, undef, undef, Value.agg #[Value.int IntKind.i64 x.k, Value.string x.t, Value.int IntKind.i64 x.n, Value.slice ax x.ks.length cx], Value.slice (some { block := bl, off := 0 }) x.flat.length cap, Value.agg #[Value.int IntKind.i64 x.k, Value.string x.t, Value.int IntKind.i64 x.n, Value.slice ax x.ks.length cx], Value.func (Fn.func 40) #[] #[Value.pointer (some { block := B, off := 0 })], Value.func (Fn.func 40) #[] #[Value.pointer (some { block := B, off := 0 })], Value.bool false, Value.bool false, Value.bool true, Value.bool false, Value.bool false, Value.func (Fn.func 40) #[] #[Value.pointer (some { block := B, off := 0 })], .int .i64 (k : Nat), .agg #[Value.int IntKind.i64 y.k, Value.string y.t, Value.int IntKind.i64 y.n, Value.slice a y.ks.length c], undef, undef, undef, undef, undef, undef, undef, undef, undef, undef, undef, undef, undef, undef, undef, undef, undef, undef, undef, undef, undef, undef, undef, undef, undef, undef, undef, undef, undef, undef, undef, undef, undef, undef, undef, undef, undef, undef, undef, undef, undef, undef, undef, undef, undef, undef, undef, undef, undef, undef, undef, undef, undef, undef, undef, undef, undef, undef, undef, undef, undef, undef, undef, undef, undef, undef, undef, undef, undef, undef, undef, undef, undef, undef, undef, undef, undef, undef, undef, undef, undef, undef, undef, undef, undef, undef, undef], defers := [] }) ?assign ?body ?done ?stop
  case assign =>
    rintro l k lo args W K ⟨y, a, c, rfl, hyf, sp, hag⟩ _ hlo hK
    gi_wp2
    exact hK _ _ (bel_a _ _) ⟨y, a, c, W.heap.size, hyf, Bx.new _ _ _ _, hlo, sp.keep (fun b _ hb => (bel_a W _).block b hb), rfl⟩
  case body =>
    rintro l k lo args a' W Wa W2 hG ⟨hb7, he7, hlv⟩ hlo hba ⟨y, a, c, pX, hyf, hX, hpX, sp, rfl⟩ hl hllo ho hs hloop hb2
    have hkl : k < x.flat.length := (List.getElem?_eq_some_iff.1 hyf).1
    have hye : x.flat[k] = y := (List.getElem?_eq_some_iff.1 hyf).2
    have zy : y.size ≤ 4194304 := Nat.le_trans (flat_sub x y (List.mem_of_getElem? hyf)).1 zx4
    have hk4 : k < 4194304 := by have := FL.out; omega
    have hb7' : Below p7 V3 W2 := hb7.trans (hb2.mono (by omega))
    have ws2 := hws.keep ord hb7'.size (fun c hc => hb7'.block c hc)
    have he2 := box1_of he7 (hb2.block _ z7)
    have hX2 : Bx W2 pX y a c := ⟨(ho pX (by omega)).trans hX.h⟩
    have sp2 : Sep W2 (fun b => lo ≤ b ∧ b < pX) (.slice a y.ks.length c) y.ks := sp.keep (fun b hb _ => ho b (by omega))
    obtain ⟨a2, c2, hF, lF⟩ := ws2.fl k hkl
    rw [hye] at hF lF
    obtain ⟨d5, _⟩ := box1 ws2.e5
    obtain ⟨d7, _⟩ := box1 he2
    have DR : Below W2.heap.size W2 W2.drew := (Below.refl _ _).drew
    have CS := SM.out y W2.drew _ _ a c a2 c2 zy (sp2.lat.bel DR) (lF.bel DR)
    have hXc : Four W2.drew pX 0 y (.slice a y.ks.length c) := hX2.cs
    have hFc : Four W2.drew bl (k * 4) y (.slice a2 y.ks.length c2) := hF
    have s2 : p7 < W2.heap.size := box1_lt he2
    have sl : lo ≤ W2.heap.size := by have := hba.size; omega
    clear hG hX sp hF lF
    gi_wp2
    refine checkA y k bl x.flat.length cap a a2 c c2 p7 p5 pX l W2 hkl d7 d5 hXc hFc CS ?_
    intro q0 q1 q2 q3 q4 q5 q6 q7 q8 q9 q10 q11 q12 q13 q14 q15 q16 W4 b4
    have D4 : Below W2.heap.size W2 W4 := DR.trans b4
    have e4 := box1_of he2 (D4.block _ s2)
    obtain ⟨g7, z7'⟩ := box1 e4
    have l4 := box1_of ws2.e3 (D4.block _ (by omega))
    have ne3 : ¬ (w.heap.size + 1 = p7) := by omega
    have l4' := (box1 (box1_of l4 (Below.heap_setCell W4 ⟨p7, 0, none⟩ (.int .i64 ((k + 1 : Nat) : Int)) (w.heap.size + 1) (by simpa using ne3)))).1
    have b4' : Below p7 V3 (W4.setCell ⟨p7, 0, none⟩ (.int .i64 ((k + 1 : Nat) : Int))) := (hb7'.trans (D4.mono (by omega))).setCell (Nat.le_refl _) _
    have e5' := box1_set (.int .i64 ((k + 1 : Nat) : Int)) e4
    have kk : ∀ q, q < lo → ((nA ≤ q ∧ q ≤ B) ∨ V3.heap.size ≤ q) → (W4.setCell ⟨p7, 0, none⟩ (.int .i64 ((k + 1 : Nat) : Int))).heap[q]? = W2.heap[q]? := fun q hq hqT => (Below.heap_setCell _ _ _ _ (by rcases hqT with h | h <;> (simp; omega))).trans (D4.block q (by omega))
    have sz4 : W2.heap.size ≤ (W4.setCell ⟨p7, 0, none⟩ (.int .i64 ((k + 1 : Nat) : Int))).heap.size := by have := D4.size; simpa [World.setCell] using this
    have ek : ((k + 1 : Nat) : Int) = (k : Int) + 1 := by omega
    rw [ek] at l4' b4' e5' kk sz4
    dsimp only [frA]
    by_cases hlv2 : ((k : Int) + 1) = leave
    · have hlv3 := hlv2
      subst hlv2
      clear hb7 hb7' hws ws2 he7 he2 e4 D4 b4 CS hXc hFc DR hX2 sp2
      gi_wp2
      refine ⟨⟨rfl, b4', ?_, ?_⟩, sz4, fun q hq hqB => kk q hq (.inr hqB)⟩
      · first | exact e5' | (rw [ek]; exact e5')
      · first | rfl | exact ek
    · have hlv4 : leave < 1 ∨ ((k : Int) + 1) < leave := by omega
      clear hb7 hb7' hws ws2 he7 he2 e4 D4 b4 CS hXc hFc DR hX2 sp2
      gi_wp2
      exact ⟨⟨b4', by rw [ek]; exact e5', by rw [ek]; exact hlv4⟩, sz4, kk⟩
  case' done =>
    rintro D W hD ⟨hb7, he7, hlv⟩ hK
    obtain ⟨v, hev, hcond⟩ : ∃ v : Int, (∃ t, W.heap[p7]? = some (.cells #[.int .i64 v] t (0, 0))) ∧ (leave < 1 ∨ (x.flat.length : Int) < leave ∨ v = leave) := ⟨_, he7, by rw [FL.out]; omega⟩
    clear he7 hlv
  case' stop =>
    rintro D c k W hD ⟨rfl, hb7, he7, hlv⟩ hK
    obtain ⟨v, hev, hcond⟩ : ∃ v : Int, (∃ t, W.heap[p7]? = some (.cells #[.int .i64 v] t (0, 0))) ∧ (leave < 1 ∨ (x.flat.length : Int) < leave ∨ v = leave) := ⟨_, he7, by omega⟩
    clear he7 hlv
  all_goals
    have ws1 := hws.keep ord hb7.size (fun c hc => hb7.block c hc)
    obtain ⟨d3, _⟩ := box1 ws1.e3
    obtain ⟨d5, _⟩ := box1 ws1.e5
    obtain ⟨d6, _⟩ := box1 ws1.e6
    obtain ⟨d7, z7'⟩ := box1 hev
    have lt7 : p7 < W.heap.size := box1_lt hev
    have ws3 := ws1.keep ord (V' := W.setCell ⟨p7, 0, none⟩ (.int .i64 0)) (by simp [World.setCell]) (fun c hc => Below.heap_setCell _ _ _ _ (by simp; omega))
    have d6' := (box1 ws3.e6).1
    have e7' := box1_set (.int .i64 0) hev
    have hK' := (Below.heap_setCell W ⟨p7, 0, none⟩ (.int .i64 0) D (by simp; omega)).trans hK
    have BW' : Below w.heap.size w (W.setCell ⟨p7, 0, none⟩ (.int .i64 0)) := (BW.trans (hb7.mono (by omega))).setCell (by simp; omega) _
    have sW : V3.heap.size ≤ W.heap.size := hb7.size
    gi_upto_region 13 with fail
    gi_cut [62] from 50 (fun c wx => c = .bool false ∧ wx = W)
    case first =>
      clear hws ws1 ws3 hb7 BW BW' e7' hK' hK
      by_cases c1 : leave < 1
      · gi_wp2
        gi_meet
        exact ⟨rfl, rfl⟩
      · by_cases c2 : (x.flat.length : Int) < leave
        · gi_wp2
          gi_meet
          exact ⟨rfl, rfl⟩
        · obtain rfl : v = leave := by omega
          gi_wp2
          gi_meet
          exact ⟨rfl, rfl⟩
    case' rest =>
      obtain ⟨rfl, rfl⟩ := hcut
      clear d3 d5 d6 hcond hb7 ws1
      gi_wp2
      obtain ⟨V6, hV6⟩ : ∃ V, wc.setCell ⟨p7, 0, none⟩ (.int .i64 0) = V := ⟨_, rfl⟩
      have s6 : V3.heap.size ≤ V6.heap.size := by rw [← hV6]; simpa [World.setCell] using sW
      rw [hV6] at ws3 e7' hK' BW' ⊢
      clear hV6 hev hK d6' d7 z7' lt7 sW
      have lt6 : p7 < V6.heap.size := box1_lt e7'
      have hT6 : ∀ b, (nA ≤ b ∧ b ≤ B) → b < V6.heap.size := fun b hb => by omega
      refine range_law2 (gf := 40) (lb := #[.pointer (some ⟨B, 0, none⟩)]) rfl (enters_of Tryd.func40 (by kernel_rfl) rfl) (AllG V6 (fun b => nA ≤ b ∧ b ≤ B) x) (fun b => nA ≤ b ∧ b ≤ B) x.size (by rintro k lo args W ⟨y, a, c, rfl, _⟩; rfl) hT6
        (all_it ws3.hN hT6 zx4 tx')
        (fun k W => But p7 V6 W ∧ (∃ t, W.heap[p7]? = some (.cells #[.int .i64 (k : Nat)] t (0, 0))))
        (fun c k W => False)
        (fun k X Z h hB => ⟨h.1.bel hB, box1_of h.2 (hB.block _ lt6)⟩)
        (fun c k X Z h hB => h) ⟨But.refl _ _, e7'⟩
        (fun k lo args a' W' => ∃ (y : Nd) (a : Option Addr) (c pX : Nat), x.flat[k]? = some y ∧ Bx W' pX y a c ∧ lo ≤ pX ∧ Sep W' (fun b => lo ≤ b ∧ b < pX) (.slice a y.ks.length c) y.ks ∧ a' = { tmps := #[Value.agg #[Value.int IntKind.i64 x.k, Value.string x.t, Value.int IntKind.i64 x.n, Value.slice ax x.ks.length cx], Value.int IntKind.i64 leave, Value.pointer (some { block := w.heap.size, off := 0 }), Value.pointer (some { block := w.heap.size + 1, off := 0 }), Value.pointer (some { block := w.heap.size + 1 + 1, off := 0 }), Value.pointer (some { block := p5, off := 0 }), Value.pointer (some { block := p6, off := 0 }), Value.pointer (some { block := p7, off := 0 }), undef, undef, .int .i64 (k : Nat), .pointer (some ⟨pX, 0, none⟩), undef, undef, Value.agg #[Value.int IntKind.i64 x.k, Value.string x.t, Value.int IntKind.i64 x.n, Value.slice ax x.ks.length cx], Value.slice (some { block := bl, off := 0 }) x.flat.length cap, Value.agg #[Value.int IntKind.i64 x.k, Value.string x.t, Value.int IntKind.i64 x.n, Value.slice ax x.ks.length cx], Value.func (Fn.func 40) #[] #[Value.pointer (some { block := B, off := 0 })], Value.func (Fn.func 40) #[] #[Value.pointer (some { block := B, off := 0 })], Value.bool false, Value.bool false, Value.bool true, Value.bool false, Value.bool false, Value.func (Fn.func 40) #[] #[Value.pointer (some { block := B, off := 0 })], undef, undef, undef, undef, undef, undef, undef, undef, undef, undef, undef, undef, undef, undef, undef, undef, undef, undef, undef, undef, undef, undef, undef, undef, undef, u50, u51, u52, u53, u54, u55, u56, u57, u58, u59, u60, u61, Value.bool false, Value.func (Fn.func 40) #[] #[Value.pointer (some { block := B, off := 0 })], .int .i64 (k : Nat), .agg #[Value.int IntKind.i64 y.k, Value.string y.t, Value.int IntKind.i64 y.n, Value.slice a y.ks.length c], u66, u67, u68, u69, u70, u71, u72, u73, u74, u75, u76, u77, u78, u79, u80, u81, u82, u83, u84, u85, u86, u87, u88, u89, u90, u91, u92, u93, u94, u95, u96, u97, u98, u99, u100, u101, u102, u103, u104, u105, u106, u107, u108, u109, u110, u111, u112, u113], defers := [] }) ?_ ?_ ?_ ?_
      · rintro l k lo args W K ⟨y, a, c, rfl, hyf, sp, hag⟩ _ hlo hK
        gi_wp2
        exact hK _ _ (bel_a _ _) ⟨y, a, c, W.heap.size, hyf, Bx.new _ _ _ _, hlo, sp.keep (fun b _ hb => (bel_a W _).block b hb), rfl⟩
      · rintro l k lo args a' W Wa W2 hG ⟨hb7, he7⟩ hlo hba ⟨y, a, c, pX, hyf, hX, hpX, sp, rfl⟩ hl hllo ho hs hloop hb2
        have hkl : k < x.flat.length := (List.getElem?_eq_some_iff.1 hyf).1
        have hye : x.flat[k] = y := (List.getElem?_eq_some_iff.1 hyf).2
        have zy : y.size ≤ 4194304 := Nat.le_trans (flat_sub x y (List.mem_of_getElem? hyf)).1 zx4
        have hk4 : k < 4194304 := by have := FL.out; omega
        have hb7' : But p7 V6 W2 := hb7.bel hb2
        have ws2 := ws3.keep ord hb7'.size (fun c hc => hb7'.block c (by omega) (by omega))
        have he2 := box1_of he7 (hb2.block _ lt6)
        have hX2 : Bx W2 pX y a c := ⟨(ho pX (by omega)).trans hX.h⟩
        have sp2 : Sep W2 (fun b => lo ≤ b ∧ b < pX) (.slice a y.ks.length c) y.ks := sp.keep (fun b hb _ => ho b (by omega))
        obtain ⟨a2, c2, hF, lF⟩ := ws2.fl k hkl
        rw [hye] at hF lF
        obtain ⟨d5, _⟩ := box1 ws2.e5
        obtain ⟨d7, _⟩ := box1 he2
        have DR : Below W2.heap.size W2 W2.drew := (Below.refl _ _).drew
        have CS := SM.out y W2.drew _ _ a c a2 c2 zy (sp2.lat.bel DR) (lF.bel DR)
        have hXc : Four W2.drew pX 0 y (.slice a y.ks.length c) := hX2.cs
        have hFc : Four W2.drew bl (k * 4) y (.slice a2 y.ks.length c2) := hF
        have s2 : p7 < W2.heap.size := box1_lt he2
        have sl : lo ≤ W2.heap.size := by have := hba.size; omega
        have sX : pX < W2.heap.size := hX2.lt
        clear hG hX sp hF lF hb7 he7 hba ho
        gi_wp2
        refine checkB y k bl x.flat.length cap a a2 c c2 p7 p5 pX l W2 hkl d7 d5 hXc hFc CS ?_
        intro q0 q1 q2 q3 q4 q5 q6 q7 q8 q9 q10 q11 q12 q13 q14 q15 q16 W4 b4
        have D4 : Below W2.heap.size W2 W4 := DR.trans b4
        have s4 := D4.size
        obtain ⟨r, hr⟩ := hloop
        have e64 := box1_of ws2.e6 (D4.block _ (by omega))
        have al6 := fun o => (box1 (box1_of e64 ((bel_a W4 o).block _ (by omega)))).1
        clear hXc hFc CS d5 d7 b4 DR
        dsimp only [frB]
        gi_wp2
        obtain ⟨V5, hV5⟩ : ∃ V, W4.alloc (Obj.cells #[Value.int IntKind.i64 0] 3) = V := ⟨_, rfl⟩
        have D5 : Below W2.heap.size W2 V5 := by rw [← hV5]; exact D4.trans ((bel_a _ _).mono D4.size)
        have e12 : ∃ t, V5.heap[W4.heap.size]? = some (.cells #[.int .i64 0] t (0, 0)) := by rw [← hV5]; exact ⟨_, hnew _ rfl⟩
        have lt12 : W4.heap.size < V5.heap.size := box1_lt e12
        rw [hV5]
        clear hV5 al6 e64 D4
        have hr5 := (D5.block l (by omega)).trans hr
        have ws5 := ws2.keep ord D5.size (fun c hc => D5.block c (by omega))
        have hT5 : ∀ b, (nA ≤ b ∧ b ≤ B) → b < V5.heap.size := fun b hb => by omega
        have p12lo : W2.heap.size ≤ W4.heap.size := s4
        generalize W4.heap.size = p12 at *
        refine range_law_in2 (n := 8) (by omega) hr5 (gf := 40) (lb := #[.pointer (some ⟨B, 0, none⟩)]) rfl (enters_of Tryd.func40 (by kernel_rfl) rfl) (AllG V5 (fun b => nA ≤ b ∧ b ≤ B) x) (fun b => nA ≤ b ∧ b ≤ B) x.size (by rintro k lo args W ⟨y, a, c, rfl, _⟩; rfl) hT5
          (all_it ws5.hN hT5 zx4 tx')
          (fun j W => But p12 V5 W ∧ (∃ t, W.heap[p12]? = some (.cells #[.int .i64 (j : Nat)] t (0, 0))) ∧ j < 2)
          (fun c j W => c = .exit 4 ∧ But p12 V5 W ∧ (∃ t, W.heap[p12]? = some (.cells #[.int .i64 2] t (0, 0))) ∧ 2 ≤ x.size)
          (fun k X Z h hB => ⟨h.1.bel hB, box1_of h.2.1 (hB.block _ lt12), h.2.2⟩)
          (fun c k X Z h hB => ⟨h.1, h.2.1.bel hB, box1_of h.2.2.1 (hB.block _ lt12), h.2.2.2⟩) ⟨But.refl _ _, e12, by omega⟩
          (fun j lo' args a' W' => ∃ v85 v86, a' = { tmps := #[Value.agg #[Value.int IntKind.i64 x.k, Value.string x.t, Value.int IntKind.i64 x.n, Value.slice ax x.ks.length cx], Value.int IntKind.i64 leave, Value.pointer (some { block := w.heap.size, off := 0 }), Value.pointer (some { block := w.heap.size + 1, off := 0 }), Value.pointer (some { block := w.heap.size + 1 + 1, off := 0 }), Value.pointer (some { block := p5, off := 0 }), Value.pointer (some { block := p6, off := 0 }), Value.pointer (some { block := p7, off := 0 }), undef, undef, .int .i64 (k : Nat), .pointer (some ⟨pX, 0, none⟩), .pointer (some ⟨p12, 0, none⟩), undef, Value.agg #[Value.int IntKind.i64 x.k, Value.string x.t, Value.int IntKind.i64 x.n, Value.slice ax x.ks.length cx], Value.slice (some { block := bl, off := 0 }) x.flat.length cap, Value.agg #[Value.int IntKind.i64 x.k, Value.string x.t, Value.int IntKind.i64 x.n, Value.slice ax x.ks.length cx], Value.func (Fn.func 40) #[] #[Value.pointer (some { block := B, off := 0 })], Value.func (Fn.func 40) #[] #[Value.pointer (some { block := B, off := 0 })], Value.bool false, Value.bool false, Value.bool true, Value.bool false, Value.bool false, Value.func (Fn.func 40) #[] #[Value.pointer (some { block := B, off := 0 })], undef, undef, undef, undef, undef, undef, undef, undef, undef, undef, undef, undef, undef, undef, undef, undef, undef, undef, undef, undef, undef, undef, undef, undef, undef, u50, u51, u52, u53, u54, u55, u56, u57, u58, u59, u60, u61, Value.bool false, Value.func (Fn.func 40) #[] #[Value.pointer (some { block := B, off := 0 })], .int .i64 (k : Nat), .agg #[Value.int IntKind.i64 y.k, Value.string y.t, Value.int IntKind.i64 y.n, Value.slice a y.ks.length c], q0, q1, q2, q3, q4, q5, q6, q7, q8, q9, q10, q11, q12, q13, q14, q15, q16, Value.bool false, Value.func (Fn.func 40) #[] #[Value.pointer (some { block := B, off := 0 })], v85, v86, u87, u88, u89, u90, u91, u92, u93, u94, u95, u96, u97, u98, u99, u100, u101, u102, u103, u104, u105, u106, u107, u108, u109, u110, u111, u112, u113], defers := [] }) ?_ ?_ ?_ ?_
        · rintro l3 j lo3 args X K ⟨y', a', c', rfl, _⟩ _ _ hK
          gi_wp2
          exact hK _ _ (Below.refl _ _) ⟨_, _, rfl⟩
        · rintro l3 j lo3 args a3 X Xa X2 ⟨y', a', c', _, hyj, _⟩ ⟨hb12, he12, hj2⟩ hlo3 hba3 ⟨v85, v86, rfl⟩ hl3 hllo3 ho3 hs3 hloop3 hb23
          have hjx := (List.getElem?_eq_some_iff.1 hyj).1
          rw [FL.out] at hjx
          have hb12' := hb12.bel hb23
          have he12' := box1_of he12 (hb23.block _ lt12)
          obtain ⟨d12, z12⟩ := box1 he12'
          have lX2 := box1_lt he12'
          have g1 := hb12'.set (.int .i64 ((j + 1 : Nat) : Int))
          have g2 := box1_set (.int .i64 ((j + 1 : Nat) : Int)) he12'
          have g3 : X2.heap.size ≤ (X2.setCell ⟨p12, 0, none⟩ (.int .i64 ((j + 1 : Nat) : Int))).heap.size := by simp [World.setCell]
          have g4 : ∀ q, q ≠ p12 → (X2.setCell ⟨p12, 0, none⟩ (.int .i64 ((j + 1 : Nat) : Int))).heap[q]? = X2.heap[q]? := fun q hq => Below.heap_setCell _ _ _ _ (by simpa using hq)
          clear hb12 he12 ho3 hs3 hloop3 hba3 hb23 hb12' he12' ws5 ws2 ws3 hws hX2 sp2
          obtain rfl | rfl : j = 0 ∨ j = 1 := by omega
          · gi_wp2
            exact ⟨⟨g1, g2, by omega⟩, g3, fun q hq hqT => g4 q (by omega)⟩
          · gi_wp2
            exact ⟨⟨rfl, g1, g2, by omega⟩, g3, fun q hq hqT => g4 q (by omega)⟩
        rintro Wn ⟨hb12, he12, hj2⟩
        obtain ⟨v, hev, hmin⟩ : ∃ v : Nat, (∃ t, Wn.heap[p12]? = some (.cells #[.int .i64 (v : Nat)] t (0, 0))) ∧ ((v = 1 ∧ x.flat.length = 1) ∨ (v = 2 ∧ 2 ≤ x.flat.length)) := ⟨_, he12, by rw [FL.out]; omega⟩
        clear he12 hj2
        rotate_left
        rintro c' j Wn ⟨rfl, hb12, he12, hj2⟩
        obtain ⟨v, hev, hmin⟩ : ∃ v : Nat, (∃ t, Wn.heap[p12]? = some (.cells #[.int .i64 (v : Nat)] t (0, 0))) ∧ ((v = 1 ∧ x.flat.length = 1) ∨ (v = 2 ∧ 2 ≤ x.flat.length)) := ⟨2, he12, by rw [FL.out]; omega⟩
        clear he12 hj2
        all_goals
          have hn2 : W2.heap.size ≤ Wn.heap.size := Nat.le_trans D5.size hb12.size
          have kn : ∀ q, q < W2.heap.size → Wn.heap[q]? = W2.heap[q]? := fun q hq => (hb12.block q (by omega) (by omega)).trans (D5.block q hq)
          have wsn := ws2.keep ord hn2 (fun q hq => kn q (by omega))
          have he7n := box1_of he2 (kn p7 s2)
          have hXn : Bx Wn pX y a c := ⟨(kn pX sX).trans hX2.h⟩
          have spn := sp2.keep (fun b hb hl => kn b hl)
          have bn : Below lo W2 Wn := ⟨hb12.os.trans D5.os, hb12.tape.trans D5.tape, hb12.output.trans D5.output, hn2, fun q hq => kn q (by omega)⟩
          obtain ⟨d12, _⟩ := box1 hev
          obtain ⟨d5, _⟩ := box1 wsn.e5
          clear hb12 D5 ws5 e12 hr5 hev
          gi_upto_region 25 with fail
          gi_cut [95] from 84 (fun c wx => c = .bool false ∧ wx = Wn)
          · clear ws2 ws3 hws wsn hb7'
            rcases hmin with ⟨rfl, h1⟩ | ⟨rfl, h1⟩
            · rw [h1] at d5
              gi_wp2
              gi_meet
              exact ⟨rfl, rfl⟩
            · obtain ⟨L, hL⟩ : ∃ L, x.flat.length = L := ⟨_, rfl⟩
              rw [hL] at d5 h1
              clear hL
              have h2 : (2 : Int) ≤ (L : Int) := by omega
              gi_wp2
              gi_meet
              exact ⟨by rw [show min 2 (L : Int) = 2 from Int.min_eq_left h2]; rfl, rfl⟩
          obtain ⟨rfl, rfl⟩ := hcut
          obtain ⟨aX, blX, eX, pXr⟩ := Sep.opW spn
          obtain ⟨rfl, rfl⟩ : a = aX ∧ c = y.ks.length := by simpa using eX
          have ly : y.ks.length ≤ 4194304 := by have := y.size_eq; have := sizes_len y.ks; omega
          have lo6 : V6.heap.size ≤ lo := by omega
          clear d12 d5 hmin eX spn sp2 ws2 wsn hX2 he2 ws3 hws
          gi_wp2
          gi_loopg [13] y.ks.length (fun gk v13 wr => ∃ j : Nat, v13 = .int .i64 (j : Nat) ∧ Hid (gk + j = y.ks.length) ∧ Below lo wc wr ∧ Bx wr pX y a y.ks.length ∧ (0 < y.ks.length → ∃ cur, wr.heap[blX]? = some (.cells cur 24 (0, 0)) ∧ cur.size = y.ks.length * 4))
          · exact ⟨0, rfl, by simp [Hid], Below.refl _ _, hXn, fun h => (pXr h).2.2⟩
          obtain ⟨j, rfl, hj, bw, Xw, rw'⟩ := hrel
          have hjk : j ≤ y.ks.length := by have := hj.out; omega
          obtain ⟨_, _, _, dX⟩ := Xw.cs
          by_cases hjl : j < y.ks.length
          · obtain ⟨rfl, ⟨hS1, hS2⟩, _⟩ := pXr (by omega)
            obtain ⟨cur, hc, hcs⟩ := rw' (by omega)
            have blt := (Array.getElem?_eq_some_iff.1 hc).1
            have hLL : ∀ W, Below wr.drew.heap.size wr.drew W → W.cell? ⟨pX, 3, none⟩ = some (.slice (some ⟨blX, 0, none⟩) y.ks.length y.ks.length) := fun W b => (Xw.bel ((Below.refl _ _).drew.trans b)).cs.2.2.2
            have hRR : ∀ W, Below wr.drew.heap.size wr.drew W → ∃ cur, W.heap[blX]? = some (.cells cur 24 (0, 0)) ∧ j * 4 + 4 ≤ cur.size := fun W b => ⟨cur, (b.block blX blt).trans hc, by omega⟩
            gi_upto_region 30 with fail
            refine mark j blX y.ks.length y.ks.length pX l wr hjl hLL hRR ?_
            intro m0 m1 m2 m3 m4 Wm bm
            have bm' : Below wr.heap.size wr Wm := (Below.refl _ _).drew.trans bm
            have r1 : Below lo wc ((((Wm.setCell ⟨blX, j * 4, none⟩ (.int .i64 1)).setCell ⟨blX, j * 4 + 1, none⟩ (.string ⟨#[]⟩)).setCell ⟨blX, j * 4 + 2, none⟩ (.int .i64 77)).setCell ⟨blX, j * 4 + 3, none⟩ (.slice none 0 0)) := ((((bw.trans (bm'.mono (by have := bw.size; omega))).setCell (by simpa using hS1) _).setCell (by simpa using hS1) _).setCell (by simpa using hS1) _).setCell (by simpa using hS1) _
            have r2 : Bx ((((Wm.setCell ⟨blX, j * 4, none⟩ (.int .i64 1)).setCell ⟨blX, j * 4 + 1, none⟩ (.string ⟨#[]⟩)).setCell ⟨blX, j * 4 + 2, none⟩ (.int .i64 77)).setCell ⟨blX, j * 4 + 3, none⟩ (.slice none 0 0)) pX y (some ⟨blX, 0, none⟩) y.ks.length := ⟨(set4_other _ _ _ _ (by omega)).trans (Xw.bel bm').h⟩
            have r3 : ∃ cur, ((((Wm.setCell ⟨blX, j * 4, none⟩ (.int .i64 1)).setCell ⟨blX, j * 4 + 1, none⟩ (.string ⟨#[]⟩)).setCell ⟨blX, j * 4 + 2, none⟩ (.int .i64 77)).setCell ⟨blX, j * 4 + 3, none⟩ (.slice none 0 0)).heap[blX]? = some (.cells cur 24 (0, 0)) ∧ cur.size = y.ks.length * 4 := ⟨_, set4_block _ _ _ _ ((bm'.block _ blt).trans hc), by simpa using hcs⟩
            clear bw Xw rw' hc hLL hRR bm bm' dX
            dsimp only [frS]
            gi_wp2
            gi_roundg (gk - 1)
            case rel => exact ⟨j + 1, by simp, by have := hj.out; show _ = _; omega, r1, r2, fun _ => r3⟩
            case measure => have := hj.out; omega
          · have hjl' : j = y.ks.length := by omega
            subst hjl'
            have e7n := box1_of he7n (bw.block p7 (by omega))
            obtain ⟨d7, z7n⟩ := box1 e7n
            have t1 := ((hb7'.bel (bn.mono lo6)).bel (bw.mono lo6)).set (.int .i64 ((k + 1 : Nat) : Int))
            have t2 := box1_set (.int .i64 ((k + 1 : Nat) : Int)) e7n
            have t3 : W2.heap.size ≤ (wr.setCell ⟨p7, 0, none⟩ (.int .i64 ((k + 1 : Nat) : Int))).heap.size := by have h1 := bw.size; have h2 := bn.size; simp [World.setCell]; omega
            have t4 : ∀ q, q < lo → ((nA ≤ q ∧ q ≤ B) ∨ V6.heap.size ≤ q) → (wr.setCell ⟨p7, 0, none⟩ (.int .i64 ((k + 1 : Nat) : Int))).heap[q]? = W2.heap[q]? := fun q hq hqT => (Below.heap_setCell _ _ _ _ (by rcases hqT with h | h <;> (simp; omega))).trans ((bw.block q hq).trans (bn.block q hq))
            have ek : ((k + 1 : Nat) : Int) = (k : Int) + 1 := by omega
            rw [ek] at t1 t2 t3 t4
            clear bw Xw rw' hb7' bn he7n e7n hXn
            gi_wp2
            exact ⟨⟨t1, by first | exact t2 | (rw [ek]; exact t2)⟩, t3, t4⟩
      · rintro D' W hD' ⟨hb7, he7⟩ hK2
        have hK1 := (hb7.block D (Array.getElem?_eq_some_iff.1 hK').1 (by omega)).trans hK'
        have ws9 := ws3.keep ord hb7.size (fun c hc => hb7.block c (by omega) (by omega))
        obtain ⟨d7, _⟩ := box1 he7
        obtain ⟨d5, _⟩ := box1 ws9.e5
        obtain ⟨d4, z4⟩ := box1 ws9.e4
        have lt4 : w.heap.size + 1 + 1 < W.heap.size := box1_lt ws9.e4
        have BW9 : Below w.heap.size w W := BW'.trans (hb7.below (by omega) (by omega))
        rw [FL.out] at d5
        have r4 := box1_set (.bool true) ws9.e4
        have D1 : D < V6.heap.size := (Array.getElem?_eq_some_iff.1 hK').1
        have hK2' := (Below.heap_setCell W ⟨w.heap.size + 1 + 1, 0, none⟩ (.bool true) D' (by simp; omega)).trans hK2
        have hK1' := (Below.heap_setCell W ⟨w.heap.size + 1 + 1, 0, none⟩ (.bool true) D (by simp; omega)).trans hK1
        have BW10 : Below w.heap.size w (W.setCell ⟨w.heap.size + 1 + 1, 0, none⟩ (.bool true)) := BW9.setCell (by simp; omega) _
        clear hb7 he7 ws9 ws3 hws BW9 hK1 hK2
        gi_wp2
        refine ⟨by simp, .inl ⟨_, _, rfl, run_takeDeferred hK2', ?_⟩⟩
        refine ⟨by simp, .inl ⟨_, _, rfl, run_takeDeferred ((World.putObj_heap_other (by omega)).trans hK1'), ?_⟩⟩
        exact ⟨_, res_b Tryd.results7 (box1_of (box1_of r4 (World.putObj_heap_other (by omega))) (World.putObj_heap_other (by omega))) rfl, rfl, (BW10.trans (below_put _ (by omega))).trans (below_put _ (by omega))⟩
      · rintro D' c k W hD' h
        exact h.elim
end Go.Proofs.YtggahoefbcnaiaaDoor.Walks
