/- Own text. A tree put into a place: the law's own walk. -/
import Derived.Test.YtggahoefbcnaiaaDoorNRepC
import Derived.Test.YtggahoefbcnaiaaDoorT13
import Derived.Test.YtggahoefbcnaiaaDoorF14
import Derived.Test.YtggahoefbcnaiaaDoorT6
import Derived.Deep.DeepCutAuto
import Derived.Deep.RegionHeld3
namespace Go.Proofs.YtggahoefbcnaiaaDoor.Replaces
open Go.RowKit
set_option linter.unusedVariables false
set_option linter.unusedSimpArgs false

set_option maxRecDepth 100000 in
set_option maxHeartbeats 16000000 in
theorem walk (x : Nd) (vx : Value) (i : Int) (m : Nd) (vm : Value) (w : World) (hx : LAt w (fun b => b < w.heap.size) vx x.ks) (zx : x.size ≤ 1048576) (tx : ∀ z ∈ x.flat, z.t.size ≤ 1048576) (hi0 : -9223372036854775808 ≤ i) (hi1 : i ≤ 9223372036854775807) (hm : LAt w (fun b => b < w.heap.size) vm m.ks) (zm : m.size ≤ 1048576) (tm : ∀ z ∈ m.flat, z.t.size ≤ 1048576) (he : WEnv w) :
    Calls Tryd.prog 6 #[x.v vx, .int .i64 i, m.v vm] w fun e w' => e = .returned (.bool true) ∧ Below w.heap.size w w' := by
  have tx' : x.tx := fun z hz => Nat.le_trans (tx z hz) (by decide)
  have tm' : m.tx := fun z hz => Nat.le_trans (tm z hz) (by decide)
  obtain ⟨ax, cx, rfl⟩ := hx.sl
  obtain ⟨am, cm, rfl⟩ := hm.sl
  have zx4 : x.size ≤ 4194304 := by omega
  have zm4 : m.size ≤ 4194304 := by omega
  obtain ⟨z, ok, hz⟩ : ∃ z ok, (0 ≤ i ∧ i < x.size ∧ z = x.repl i.toNat m ∧ ok = true) ∨ ((i < 0 ∨ (x.size : Int) ≤ i) ∧ z = zN ∧ ok = false) := by
    by_cases h : 0 ≤ i ∧ i < x.size
    · exact ⟨_, _, Or.inl ⟨h.1, h.2, rfl, rfl⟩⟩
    · exact ⟨_, _, Or.inr ⟨by omega, rfl, rfl⟩⟩
  have zz : z.size ≤ 4194304 := by
    rcases hz with ⟨h0, h1, rfl, _⟩ | ⟨_, rfl, _⟩
    · have hk : i.toNat < x.flat.length := by rw [x.flat_len]; omega
      have := ((x.back_all i.toNat x.flat[i.toNat] (List.getElem?_eq_getElem hk)).2 m).1
      omega
    · decide
  have C1 : Hid (∀ W S S' a c a' c', LAt W S (.slice a x.ks.length c) x.ks → LAt W S' (.slice a' m.ks.length c') m.ks → Calls Tryd.prog 22 #[.agg #[Value.int IntKind.i64 x.k, Value.string x.t, Value.int IntKind.i64 x.n, Value.slice a x.ks.length c], .int .i64 i, .agg #[Value.int IntKind.i64 m.k, Value.string m.t, Value.int IntKind.i64 m.n, Value.slice a' m.ks.length c']] W fun e w' => ∃ a c, e = .returned (.tuple #[.agg #[Value.int IntKind.i64 z.k, Value.string z.t, Value.int IntKind.i64 z.n, Value.slice a z.ks.length c], .bool ok]) ∧ LAt w' (fun b => W.heap.size ≤ b ∧ b < w'.heap.size) (.slice a z.ks.length c) z.ks ∧ Below W.heap.size W w') := fun W S S' a c a' c' l l' => replace_both x m i W _ _ _ _ l zx4 tx' l' zm4 tm' z ok hz
  have C2 : Hid (∀ W S a c, Below w.heap.size w W → LAt W S (.slice a x.ks.length c) x.ks → Calls Tryd.prog 12 #[.agg #[Value.int IntKind.i64 x.k, Value.string x.t, Value.int IntKind.i64 x.n, Value.slice a x.ks.length c], .agg #[Value.int IntKind.i64 x.k, Value.string x.t, Value.int IntKind.i64 x.n, Value.slice ax x.ks.length cx]] W fun e w' => e = .returned (.bool true) ∧ Below W.heap.size W w') := fun W S a c b l => (rsame_any x x W _ _ _ _ l (hx.bel b) zx4 zx4).mono (by rintro e w' ⟨b, rfl, hb, bb⟩; exact ⟨by rw [hb.2 rfl], bb⟩)
  have C3 : Hid (∀ W S a c, Below w.heap.size w W → LAt W S (.slice a m.ks.length c) m.ks → Calls Tryd.prog 12 #[.agg #[Value.int IntKind.i64 m.k, Value.string m.t, Value.int IntKind.i64 m.n, Value.slice a m.ks.length c], .agg #[Value.int IntKind.i64 m.k, Value.string m.t, Value.int IntKind.i64 m.n, Value.slice am m.ks.length cm]] W fun e w' => e = .returned (.bool true) ∧ Below W.heap.size W w') := fun W S a c b l => (rsame_any m m W _ _ _ _ l (hm.bel b) zm4 zm4).mono (by rintro e w' ⟨b, rfl, hb, bb⟩; exact ⟨by rw [hb.2 rfl], bb⟩)
  have C4 : Hid (∀ W, Below w.heap.size w W → Calls Tryd.prog 13 #[] W fun e w' => e = .returned (.bool true) ∧ Below W.heap.size W w') := fun W b => awake_any W (he.bel b)
  have C5 : Hid (∀ W, Below w.heap.size w W → Calls Tryd.prog 17 #[.agg #[Value.int IntKind.i64 x.k, Value.string x.t, Value.int IntKind.i64 x.n, Value.slice ax x.ks.length cx]] W fun e w' => e = .returned (.int .i64 (x.size : Nat)) ∧ Below W.heap.size W w') := fun W b => rsize_any x W _ _ (hx.bel b) zx4
  have C6 : Hid (0 ≤ i → i < x.size → z = x.repl i.toNat m → ∀ W, Below w.heap.size w W → Calls Tryd.prog 23 #[.agg #[Value.int IntKind.i64 x.k, Value.string x.t, Value.int IntKind.i64 x.n, Value.slice ax x.ks.length cx], .int .i64 i, .agg #[Value.int IntKind.i64 m.k, Value.string m.t, Value.int IntKind.i64 m.n, Value.slice am m.ks.length cm]] W fun e w' => ∃ a c, e = .returned (.agg #[Value.int IntKind.i64 z.k, Value.string z.t, Value.int IntKind.i64 z.n, Value.slice a z.ks.length c]) ∧ LAt w' (fun b => W.heap.size ≤ b) (.slice a z.ks.length c) z.ks ∧ Below W.heap.size W w') := fun h0 h1 h2 W b => by
    have := rrepl_any m zm4 x W _ _ _ _ i (hx.bel b) (hm.bel b) zx4 h0 h1
    rw [← h2] at this
    exact this.mono (by rintro e w' ⟨v, rfl, l, bb⟩; obtain ⟨a, c, rfl⟩ := l.sl; exact ⟨a, c, rfl, l, bb⟩)
  have C7 : Hid (∀ W S T a c b d, LAt W S (.slice a z.ks.length c) z.ks → LAt W T (.slice b z.ks.length d) z.ks → Calls Tryd.prog 12 #[.agg #[Value.int IntKind.i64 z.k, Value.string z.t, Value.int IntKind.i64 z.n, Value.slice a z.ks.length c], .agg #[Value.int IntKind.i64 z.k, Value.string z.t, Value.int IntKind.i64 z.n, Value.slice b z.ks.length d]] W fun e w' => e = .returned (.bool true) ∧ Below W.heap.size W w') := fun W S T a c b d l l' => (rsame_any z z W _ _ _ _ l l' zz zz).mono (by rintro e w' ⟨b, rfl, hb, bb⟩; exact ⟨by rw [hb.2 rfl], bb⟩)
  have C8 : Hid (z = zN → ∀ W S a c, LAt W S (.slice a z.ks.length c) z.ks → Calls Tryd.prog 12 #[.agg #[Value.int IntKind.i64 z.k, Value.string z.t, Value.int IntKind.i64 z.n, Value.slice a z.ks.length c], .agg #[.int .i64 0, .string ⟨#[]⟩, .int .i64 0, .slice none 0 0]] W fun e w' => e = .returned (.bool true) ∧ Below W.heap.size W w') := fun hzz W S a c l => by
    subst hzz
    exact C7.out W _ (fun _ => True) a c none 0 l (.nil _ _)
  have CX : Hid (∀ W, Below w.heap.size w W → Calls Tryd.prog 9 #[.agg #[Value.int IntKind.i64 x.k, Value.string x.t, Value.int IntKind.i64 x.n, Value.slice ax x.ks.length cx]] W fun e w' => ∃ a c, e = .returned (.agg #[Value.int IntKind.i64 x.k, Value.string x.t, Value.int IntKind.i64 x.n, Value.slice a x.ks.length c]) ∧ LAt w' (fun b => W.heap.size ≤ b) (.slice a x.ks.length c) x.ks ∧ Below W.heap.size W w') := fun W b => (rcopy_any x W _ _ (hx.bel b) zx4).mono (by rintro e w' ⟨v, rfl, l, bb⟩; obtain ⟨a, c, rfl⟩ := l.sl; exact ⟨a, c, rfl, l, bb⟩)
  have CM : Hid (∀ W, Below w.heap.size w W → Calls Tryd.prog 9 #[.agg #[Value.int IntKind.i64 m.k, Value.string m.t, Value.int IntKind.i64 m.n, Value.slice am m.ks.length cm]] W fun e w' => ∃ a c, e = .returned (.agg #[Value.int IntKind.i64 m.k, Value.string m.t, Value.int IntKind.i64 m.n, Value.slice a m.ks.length c]) ∧ LAt w' (fun b => W.heap.size ≤ b) (.slice a m.ks.length c) m.ks ∧ Below W.heap.size W w') := fun W b => (rcopy_any m W _ _ (hm.bel b) zm4).mono (by rintro e w' ⟨v, rfl, l, bb⟩; obtain ⟨a, c, rfl⟩ := l.sl; exact ⟨a, c, rfl, l, bb⟩)
  have nx : Hid (∀ W' W'', Below w.heap.size w W' → Below W'.heap.size W' W'' → Below w.heap.size w W'') := fun W' W'' b b' => b.trans (b'.mono b.size)
  have HZ : Hid ((0 ≤ i ∧ i < x.size ∧ z = x.repl i.toNat m ∧ ok = true) ∨ ((i < 0 ∨ (x.size : Int) ≤ i) ∧ z = zN ∧ ok = false)) := hz
  clear hz hx hm tx tm tx' tm' he
  unfold Nd.v
  go_enter Tryd.func6, Tryd.ntmps6
  go_upto_region 1 with fail
  obtain ⟨W0, hW0⟩ : ∃ W, ((w.alloc (Obj.cells #[Value.int IntKind.i64 x.k, Value.string x.t, Value.int IntKind.i64 x.n, Value.slice ax x.ks.length cx] 24)).alloc (Obj.cells #[Value.int IntKind.i64 m.k, Value.string m.t, Value.int IntKind.i64 m.n, Value.slice am m.ks.length cm] 24)) = W := ⟨_, rfl⟩
  have B0 : Below w.heap.size w W0 := by rw [← hW0]; exact (bel_a _ _).alloc (by simp) _
  have X0 : Bx W0 w.heap.size x ax cx := by rw [← hW0]; exact (Bx.new w x ax cx).bel (bel_a _ _)
  have M0 : Bx W0 (w.heap.size + 1) m am cm := by rw [← hW0]; exact ⟨hnew _ (by simp)⟩
  rw [hW0]
  clear hW0
  go_cut [7, 8] (fun u7 u8 W => ∃ p q a c a' c', u7 = .pointer (some ⟨p, 0, none⟩) ∧ u8 = .pointer (some ⟨q, 0, none⟩) ∧ Two W0 W0.heap.size x m p q a c a' c' W)
  case first =>
    refine copies x m ax am cx cm w.heap.size (w.heap.size + 1) _ _ _ W0 X0 M0 (fun W b => CX.out W (nx.out _ _ B0 b)) (fun W b => CM.out W (nx.out _ _ B0 b)) ?_
    intro p q a c a' c' W T
    dsimp only [fr1]
    go_wp2
    go_meet
    exact ⟨p, q, a, c, a', c', rfl, rfl, T⟩
  case rest =>
    obtain ⟨p, q, a, c, a', c', rfl, rfl, T⟩ := hcut
    have B1 := nx.out _ _ B0 T.bel
    have X1 := X0.bel T.bel
    have M1 := M0.bel T.bel
    obtain ⟨P1, Q1, LX1, LM1, _⟩ := T
    clear X0 M0 B0 CX CM
    obtain ⟨_, _, _, _⟩ := P1.cs
    obtain ⟨_, _, _, _⟩ := Q1.cs
    go_upto_region 3 with (go_at_call 22; refine (C1.out _ _ _ _ _ _ _ LX1 LM1).mono ?_; rintro e W2 ⟨a2, c2, rfl, l2, b2⟩)
    obtain ⟨V2, hV2⟩ : ∃ W, W2.alloc (Obj.cells #[Value.int IntKind.i64 z.k, Value.string z.t, Value.int IntKind.i64 z.n, Value.slice a2 z.ks.length c2] 24) = W := ⟨_, rfl⟩
    have b2' : Below W2.heap.size W2 V2 := by rw [← hV2]; exact bel_a _ _
    have Z2 : Bx V2 W2.heap.size z a2 c2 := by rw [← hV2]; exact Bx.new _ _ _ _
    have X2 := (X1.bel b2).bel b2'
    have M2 := (M1.bel b2).bel b2'
    have P2 := (P1.bel b2).bel b2'
    have Q2 := (Q1.bel b2).bel b2'
    have B2 := nx.out _ _ (nx.out _ _ B1 b2) b2'
    have LX2 := (LX1.bel b2).bel b2'
    have LM2 := (LM1.bel b2).bel b2'
    have L2 := l2.bel b2'
    rw [hV2]
    clear hV2 X1 M1 P1 Q1 B1 LX1 LM1 l2 b2 b2' C1
    generalize W2.heap.size = p2 at *
    obtain ⟨_, _, _, _⟩ := P2.cs
    obtain ⟨_, _, _, _⟩ := X2.cs
    have kq : Hid (∀ W', Below V2.heap.size V2 W' → (W'.cell? ⟨q, 0, none⟩ = some (.int .i64 m.k) ∧ W'.cell? ⟨q, 1, none⟩ = some (.string m.t) ∧ W'.cell? ⟨q, 2, none⟩ = some (.int .i64 m.n) ∧ W'.cell? ⟨q, 3, none⟩ = some (.slice a' m.ks.length c'))) := fun W' b => (Q2.bel b).cs
    have km : Hid (∀ W', Below V2.heap.size V2 W' → (W'.cell? ⟨w.heap.size + 1, 0, none⟩ = some (.int .i64 m.k) ∧ W'.cell? ⟨w.heap.size + 1, 1, none⟩ = some (.string m.t) ∧ W'.cell? ⟨w.heap.size + 1, 2, none⟩ = some (.int .i64 m.n) ∧ W'.cell? ⟨w.heap.size + 1, 3, none⟩ = some (.slice am m.ks.length cm))) := fun W' b => (M2.bel b).cs
    have t1 : True := trivial
    go_upto_region 5 with (first
      | (go_at_call 12; have _t := t1; refine (C2.out _ _ _ _ B2 LX2).mono ?_; rintro e W3 ⟨rfl, b3⟩; have B3 := nx.out _ _ B2 b3; obtain ⟨_, _, _, _⟩ := kq.out _ b3; obtain ⟨_, _, _, _⟩ := km.out _ b3; have LM3 := LM2.bel b3; clear t1)
      | (go_at_call 12; refine (C3.out _ _ _ _ B3 LM3).mono ?_; rintro e W4 ⟨rfl, b4⟩; have B4 := nx.out _ _ B3 b4)
      | (go_at_call 13; refine (C4.out _ B4).mono ?_; rintro e W5 ⟨rfl, b5⟩; have B5 := nx.out _ _ B4 b5))
    have b25 : Below V2.heap.size V2 W5 := (b3.trans (b4.mono b3.size)).trans (b5.mono (Nat.le_trans b3.size b4.size))
    have X5 := X2.bel b25
    have M5 := M2.bel b25
    have Z5 := Z2.bel b25
    have L5 := L2.bel b25
    clear X2 M2 Z2 L2 P2 Q2 LX2 LM2 LM3 kq km B2 B3 B4 b3 b4 b5 b25 C2 C3 C4
    have kz : Hid (∀ W', Below W5.heap.size W5 W' → (W'.cell? ⟨p2, 0, none⟩ = some (.int .i64 z.k) ∧ W'.cell? ⟨p2, 1, none⟩ = some (.string z.t) ∧ W'.cell? ⟨p2, 2, none⟩ = some (.int .i64 z.n) ∧ W'.cell? ⟨p2, 3, none⟩ = some (.slice a2 z.ks.length c2))) := fun W' b => (Z5.bel b).cs
    have lz : Hid (∀ W', Below W5.heap.size W5 W' → LAt W' (fun _ => True) (.slice a2 z.ks.length c2) z.ks) := fun W' b => (L5.bel b).mono (fun _ _ => trivial)
    rcases HZ.out with ⟨h0, h1, hzr, hok⟩ | ⟨hno, hzn, hok⟩
    · have S6 := C6.out h0 h1 hzr
      have S6' : Hid (∀ W, Below w.heap.size w W → Calls Tryd.prog 23 #[.agg #[Value.int IntKind.i64 x.k, Value.string x.t, Value.int IntKind.i64 x.n, Value.slice ax x.ks.length cx], .int .i64 i, .agg #[Value.int IntKind.i64 m.k, Value.string m.t, Value.int IntKind.i64 m.n, Value.slice am m.ks.length cm]] W fun e w' => ∃ a c, e = .returned (.agg #[Value.int IntKind.i64 z.k, Value.string z.t, Value.int IntKind.i64 z.n, Value.slice a z.ks.length c]) ∧ LAt w' (fun b => W.heap.size ≤ b) (.slice a z.ks.length c) z.ks ∧ Below W.heap.size W w') := S6
      clear S6 C6 HZ C8 hzr
      subst hok
      have g0 : ¬ i < 0 := by omega
      have g1 : ¬ (x.size : Int) ≤ i := by omega
      clear h0 h1
      obtain ⟨_, _, _, _⟩ := X5.cs
      go_upto_region 7 with (go_at_call 17; refine (C5.out _ B5).mono ?_; rintro e W6 ⟨rfl, b6⟩)
      have B6 := nx.out _ _ B5 b6
      have cs : Hid (∀ W', Below W6.heap.size W6 W' → ((W'.cell? ⟨p2, 0, none⟩ = some (.int .i64 z.k) ∧ W'.cell? ⟨p2, 1, none⟩ = some (.string z.t) ∧ W'.cell? ⟨p2, 2, none⟩ = some (.int .i64 z.n) ∧ W'.cell? ⟨p2, 3, none⟩ = some (.slice a2 z.ks.length c2)) ∧ (W'.cell? ⟨w.heap.size, 0, none⟩ = some (.int .i64 x.k) ∧ W'.cell? ⟨w.heap.size, 1, none⟩ = some (.string x.t) ∧ W'.cell? ⟨w.heap.size, 2, none⟩ = some (.int .i64 x.n) ∧ W'.cell? ⟨w.heap.size, 3, none⟩ = some (.slice ax x.ks.length cx)) ∧ (W'.cell? ⟨w.heap.size + 1, 0, none⟩ = some (.int .i64 m.k) ∧ W'.cell? ⟨w.heap.size + 1, 1, none⟩ = some (.string m.t) ∧ W'.cell? ⟨w.heap.size + 1, 2, none⟩ = some (.int .i64 m.n) ∧ W'.cell? ⟨w.heap.size + 1, 3, none⟩ = some (.slice am m.ks.length cm)))) := fun W' b => ⟨((Z5.bel b6).bel b).cs, ((X5.bel b6).bel b).cs, ((M5.bel b6).bel b).cs⟩
      have up : Hid (∀ W', Below W6.heap.size W6 W' → Below w.heap.size w W') := fun W' b => nx.out _ _ B6 b
      have nx6 : Hid (∀ W' W'', Below W6.heap.size W6 W' → Below W'.heap.size W' W'' → Below W6.heap.size W6 W'') := fun W' W'' b b' => b.trans (b'.mono b.size)
      have lz6 : Hid (∀ W', Below W6.heap.size W6 W' → LAt W' (fun _ => True) (.slice a2 z.ks.length c2) z.ks) := fun W' b => (lz.out _ b6).bel b
      have D0 : Below W6.heap.size W6 W6.drew := (Below.refl _ _).drew
      clear X5 M5 Z5 L5 b6 B6 B5 kz lz
      go_region_held3 (fun W' => ((W'.cell? ⟨p2, 0, none⟩ = some (.int .i64 z.k) ∧ W'.cell? ⟨p2, 1, none⟩ = some (.string z.t) ∧ W'.cell? ⟨p2, 2, none⟩ = some (.int .i64 z.n) ∧ W'.cell? ⟨p2, 3, none⟩ = some (.slice a2 z.ks.length c2)) ∧ (W'.cell? ⟨w.heap.size, 0, none⟩ = some (.int .i64 x.k) ∧ W'.cell? ⟨w.heap.size, 1, none⟩ = some (.string x.t) ∧ W'.cell? ⟨w.heap.size, 2, none⟩ = some (.int .i64 x.n) ∧ W'.cell? ⟨w.heap.size, 3, none⟩ = some (.slice ax x.ks.length cx)) ∧ (W'.cell? ⟨w.heap.size + 1, 0, none⟩ = some (.int .i64 m.k) ∧ W'.cell? ⟨w.heap.size + 1, 1, none⟩ = some (.string m.t) ∧ W'.cell? ⟨w.heap.size + 1, 2, none⟩ = some (.int .i64 m.n) ∧ W'.cell? ⟨w.heap.size + 1, 3, none⟩ = some (.slice am m.ks.length cm))))
        (first | assumption | exact cs.out _ D2 | exact cs.out _ D1 | exact cs.out _ D0)
        (first
          | (go_at_call 23; refine (S6'.out _ (up.out _ D0)).mono ?_; rintro e W7 ⟨a7, c7, rfl, l7, b7⟩; have D1 := nx6.out _ _ D0 b7)
          | (go_at_call 12; refine (C7.out _ _ _ _ _ _ _ (lz6.out _ D1) l7).mono ?_; rintro e W8 ⟨rfl, b8⟩; have D2 := nx6.out _ _ D1 b8))
      all_goals
        go_wp2
        go_ret
        exact ⟨rfl, up.out _ D2⟩
    · have S8 := C8.out hzn
      have S8' : Hid (∀ W S a c, LAt W S (.slice a z.ks.length c) z.ks → Calls Tryd.prog 12 #[.agg #[Value.int IntKind.i64 z.k, Value.string z.t, Value.int IntKind.i64 z.n, Value.slice a z.ks.length c], .agg #[.int .i64 0, .string ⟨#[]⟩, .int .i64 0, .slice none 0 0]] W fun e w' => e = .returned (.bool true) ∧ Below W.heap.size W w') := S8
      clear S8 C6 HZ C8 C7 hzn
      subst hok
      obtain ⟨_, _, _, _⟩ := X5.cs
      obtain ⟨_, _, _, _⟩ := Z5.cs
      by_cases g0 : i < 0
      · clear hno
        go_wp2_with (go_at_call 12; refine (S8'.out _ _ _ _ L5).mono ?_; rintro e W7 ⟨rfl, b7⟩; have B7 := nx.out _ _ B5 b7)
        go_ret
        exact ⟨rfl, B7⟩
      · have g1 : (x.size : Int) ≤ i := by omega
        clear hno
        go_wp2_with (first
          | (go_at_call 17; refine (C5.out _ B5).mono ?_; rintro e W6 ⟨rfl, b6⟩; have B6 := nx.out _ _ B5 b6; have L6 := L5.bel b6; obtain ⟨_, _, _, _⟩ := kz.out _ b6)
          | (go_at_call 12; refine (S8'.out _ _ _ _ L6).mono ?_; rintro e W7 ⟨rfl, b7⟩; have B7 := nx.out _ _ B6 b7))
        go_ret
        exact ⟨rfl, B7⟩
end Go.Proofs.YtggahoefbcnaiaaDoor.Replaces
