/- Own text. A tree's own part put back: the law's own walk, within. -/
import Derived.Test.YtggahoefbcnaiaaDoorNBack
import Derived.Deep.DeepCutAuto
import Derived.Deep.RegionHeld3
namespace Go.Proofs.YtggahoefbcnaiaaDoor.Back
open Go.RowKit
set_option linter.unusedVariables false
set_option linter.unusedSimpArgs false

/-- a tree in a cell of its own. -/
structure Bx (W : World) (p : Nat) (x : Nd) (a : Option Addr) (c : Nat) : Prop where
  h : W.heap[p]? = some (.cells #[.int .i64 x.k, .string x.t, .int .i64 x.n, .slice a x.ks.length c] 24 (0, 0))
theorem Bx.bel {W W' : World} {p : Nat} {x : Nd} {a : Option Addr} {c : Nat} (h : Bx W p x a c) (b : Below W.heap.size W W') : Bx W' p x a c := ⟨(b.block p (Array.getElem?_eq_some_iff.1 h.h).1).trans h.h⟩
theorem Bx.new (W : World) (x : Nd) (a : Option Addr) (c : Nat) : Bx (W.alloc (Obj.cells #[.int .i64 x.k, .string x.t, .int .i64 x.n, .slice a x.ks.length c] 24)) W.heap.size x a c := ⟨hnew _ rfl⟩
def C4 (W : World) (p : Nat) (x : Nd) (a : Option Addr) (c : Nat) : Prop := W.cell? ⟨p, 0, none⟩ = some (.int .i64 x.k) ∧ W.cell? ⟨p, 1, none⟩ = some (.string x.t) ∧ W.cell? ⟨p, 2, none⟩ = some (.int .i64 x.n) ∧ W.cell? ⟨p, 3, none⟩ = some (.slice a x.ks.length c)
theorem Bx.cs {W : World} {p : Nat} {x : Nd} {a : Option Addr} {c : Nat} (h : Bx W p x a c) : W.cell? ⟨p, 0, none⟩ = some (.int .i64 x.k) ∧ W.cell? ⟨p, 1, none⟩ = some (.string x.t) ∧ W.cell? ⟨p, 2, none⟩ = some (.int .i64 x.n) ∧ W.cell? ⟨p, 3, none⟩ = some (.slice a x.ks.length c) := (box4 h.h).1

set_option maxRecDepth 100000 in
set_option maxHeartbeats 16000000 in
theorem walk_in (x : Nd) (vx : Value) (k : Nat) (m : Nd) (vm : Value) (w : World) (hx : LAt w (fun b => b < w.heap.size) vx x.ks) (zx : x.size ≤ 1048576) (tx : ∀ z ∈ x.flat, z.t.size ≤ 1048576) (hm : LAt w (fun b => b < w.heap.size) vm m.ks) (zm : m.size ≤ 1048576) (tm : ∀ z ∈ m.flat, z.t.size ≤ 1048576) (he : WEnv w) (hk : k < x.flat.length) :
    Calls Tryd.prog 8 #[x.v vx, .int .i64 (k : Int), m.v vm] w fun e w' => e = .returned (.bool true) ∧ Below w.heap.size w w' := by
  have tx' : x.tx := fun z hz => Nat.le_trans (tx z hz) (by decide)
  have tm' : m.tx := fun z hz => Nat.le_trans (tm z hz) (by decide)
  obtain ⟨ax, cx, rfl⟩ := hx.sl
  obtain ⟨am, cm, rfl⟩ := hm.sl
  have zx4 : x.size ≤ 4194304 := by omega
  have zm4 : m.size ≤ 4194304 := by omega
  have hmem := List.getElem_mem hk
  have yz : x.flat[k].size ≤ x.size := (flat_sub x _ hmem).1
  have yt : x.flat[k].tx := Nd.tx_sub tx' hmem
  obtain ⟨hb1, hb2⟩ := x.back_all k x.flat[k] (List.getElem?_eq_getElem hk)
  obtain ⟨hb3, hb4⟩ := hb2 m
  clear hb2
  have A1 := fun W (b : Below w.heap.size w W) => at_in x W _ _ k (hx.bel b) zx4 tx' hk
  generalize x.flat[k] = y at *
  obtain ⟨z, hz⟩ : ∃ z, x.repl k m = z := ⟨_, rfl⟩
  have zt : z.tx := by rw [← hz]; exact Nd.tx_repl m tm' x tx' k
  rw [hz] at hb3 hb4
  have zz : z.size ≤ 4194304 := by omega
  have yz4 : y.size ≤ 4194304 := by omega
  have hkz := (List.getElem?_eq_some_iff.1 hb4).1
  have hmz : z.flat[k] = m := (List.getElem?_eq_some_iff.1 hb4).2
  have C1 : Hid (∀ W, Below w.heap.size w W → Calls Tryd.prog 21 #[.agg #[Value.int IntKind.i64 x.k, Value.string x.t, Value.int IntKind.i64 x.n, Value.slice ax x.ks.length cx], .int .i64 (k : Int)] W fun e w' => ∃ a c, e = .returned (.tuple #[.agg #[Value.int IntKind.i64 y.k, Value.string y.t, Value.int IntKind.i64 y.n, Value.slice a y.ks.length c], .bool true]) ∧ LAt w' (fun b => W.heap.size ≤ b ∧ b < w'.heap.size) (.slice a y.ks.length c) y.ks ∧ Below W.heap.size W w') := A1
  have C2 : Hid (∀ W S a1 c1, Below w.heap.size w W → LAt W S (.slice a1 y.ks.length c1) y.ks → Calls Tryd.prog 22 #[.agg #[Value.int IntKind.i64 x.k, Value.string x.t, Value.int IntKind.i64 x.n, Value.slice ax x.ks.length cx], .int .i64 (k : Int), .agg #[Value.int IntKind.i64 y.k, Value.string y.t, Value.int IntKind.i64 y.n, Value.slice a1 y.ks.length c1]] W fun e w' => ∃ a c, e = .returned (.tuple #[.agg #[Value.int IntKind.i64 x.k, Value.string x.t, Value.int IntKind.i64 x.n, Value.slice a x.ks.length c], .bool true]) ∧ LAt w' (fun b => W.heap.size ≤ b ∧ b < w'.heap.size) (.slice a x.ks.length c) x.ks ∧ Below W.heap.size W w') := fun W S a1 c1 b l => replace_in x y W _ _ _ _ k (hx.bel b) zx4 tx' l yz4 yt hk hb1
  have C3 : Hid (∀ W S a c, Below w.heap.size w W → LAt W S (.slice a x.ks.length c) x.ks → Calls Tryd.prog 14 #[.agg #[Value.int IntKind.i64 x.k, Value.string x.t, Value.int IntKind.i64 x.n, Value.slice a x.ks.length c], .agg #[Value.int IntKind.i64 x.k, Value.string x.t, Value.int IntKind.i64 x.n, Value.slice ax x.ks.length cx]] W fun e w' => e = .returned (.bool true) ∧ Below W.heap.size W w') := fun W S a c b l => (same_any x x W _ _ _ _ l (hx.bel b) zx4 zx4).mono (by rintro e w' ⟨b, rfl, hb, bb⟩; exact ⟨by rw [hb.2 rfl], bb⟩)
  have C4 : Hid (∀ W, Below w.heap.size w W → Calls Tryd.prog 22 #[.agg #[Value.int IntKind.i64 x.k, Value.string x.t, Value.int IntKind.i64 x.n, Value.slice ax x.ks.length cx], .int .i64 (k : Int), .agg #[Value.int IntKind.i64 m.k, Value.string m.t, Value.int IntKind.i64 m.n, Value.slice am m.ks.length cm]] W fun e w' => ∃ a c, e = .returned (.tuple #[.agg #[Value.int IntKind.i64 z.k, Value.string z.t, Value.int IntKind.i64 z.n, Value.slice a z.ks.length c], .bool true]) ∧ LAt w' (fun b => W.heap.size ≤ b ∧ b < w'.heap.size) (.slice a z.ks.length c) z.ks ∧ Below W.heap.size W w') := fun W b => replace_in x m W _ _ _ _ k (hx.bel b) zx4 tx' (hm.bel b) zm4 tm' hk hz
  have C5 : Hid (∀ (q : Nd) (W : World) S a c, q.size ≤ 4194304 → LAt W S (.slice a q.ks.length c) q.ks → Calls Tryd.prog 16 #[.agg #[Value.int IntKind.i64 q.k, Value.string q.t, Value.int IntKind.i64 q.n, Value.slice a q.ks.length c]] W fun e w' => e = .returned (.int .i64 (q.size : Nat)) ∧ Below W.heap.size W w') := fun q W S a c hq l => size_any q W _ _ l hq
  have C6 : Hid (∀ W S a4 c4, LAt W S (.slice a4 z.ks.length c4) z.ks → Calls Tryd.prog 21 #[.agg #[Value.int IntKind.i64 z.k, Value.string z.t, Value.int IntKind.i64 z.n, Value.slice a4 z.ks.length c4], .int .i64 (k : Int)] W fun e w' => ∃ a c, e = .returned (.tuple #[.agg #[Value.int IntKind.i64 m.k, Value.string m.t, Value.int IntKind.i64 m.n, Value.slice a m.ks.length c], .bool true]) ∧ LAt w' (fun b => W.heap.size ≤ b ∧ b < w'.heap.size) (.slice a m.ks.length c) m.ks ∧ Below W.heap.size W w') := fun W S a4 c4 l => by
    have := at_in z W S _ k l zz zt hkz
    rwa [hmz] at this
  have C7 : Hid (∀ W S a c, Below w.heap.size w W → LAt W S (.slice a m.ks.length c) m.ks → Calls Tryd.prog 14 #[.agg #[Value.int IntKind.i64 m.k, Value.string m.t, Value.int IntKind.i64 m.n, Value.slice a m.ks.length c], .agg #[Value.int IntKind.i64 m.k, Value.string m.t, Value.int IntKind.i64 m.n, Value.slice am m.ks.length cm]] W fun e w' => e = .returned (.bool true) ∧ Below W.heap.size W w') := fun W S a c b l => (same_any m m W _ _ _ _ l (hm.bel b) zm4 zm4).mono (by rintro e w' ⟨b, rfl, hb, bb⟩; exact ⟨by rw [hb.2 rfl], bb⟩)
  have HX : Hid (∀ W, Below w.heap.size w W → LAt W (fun b => b < w.heap.size) (.slice ax x.ks.length cx) x.ks) := fun W b => hx.bel b
  have HM : Hid (∀ W, Below w.heap.size w W → LAt W (fun b => b < w.heap.size) (.slice am m.ks.length cm) m.ks) := fun W b => hm.bel b
  have nx : Hid (∀ W' W'', Below w.heap.size w W' → Below W'.heap.size W' W'' → Below w.heap.size w W'') := fun W' W'' b b' => b.trans (b'.mono b.size)
  have B0 : Below w.heap.size w ((w.alloc (Obj.cells #[Value.int IntKind.i64 x.k, Value.string x.t, Value.int IntKind.i64 x.n, Value.slice ax x.ks.length cx] 24)).alloc (Obj.cells #[Value.int IntKind.i64 m.k, Value.string m.t, Value.int IntKind.i64 m.n, Value.slice am m.ks.length cm] 24)) := (bel_a _ _).alloc (by simp) _
  have X0 : Bx ((w.alloc (Obj.cells #[Value.int IntKind.i64 x.k, Value.string x.t, Value.int IntKind.i64 x.n, Value.slice ax x.ks.length cx] 24)).alloc (Obj.cells #[Value.int IntKind.i64 m.k, Value.string m.t, Value.int IntKind.i64 m.n, Value.slice am m.ks.length cm] 24)) w.heap.size x ax cx := (Bx.new w x ax cx).bel (bel_a _ _)
  have M0 : Bx ((w.alloc (Obj.cells #[Value.int IntKind.i64 x.k, Value.string x.t, Value.int IntKind.i64 x.n, Value.slice ax x.ks.length cx] 24)).alloc (Obj.cells #[Value.int IntKind.i64 m.k, Value.string m.t, Value.int IntKind.i64 m.n, Value.slice am m.ks.length cm] 24)) (w.heap.size + 1) m am cm := ⟨hnew _ (by simp)⟩
  have HZ : Hid (z.size + y.size = x.size + m.size) := hb3
  obtain ⟨fm, hfm⟩ : ∃ f, formP m = f := ⟨_, rfl⟩
  obtain ⟨fx, hfx⟩ : ∃ f, formP x = f := ⟨_, rfl⟩
  obtain ⟨fz, hfz⟩ : ∃ f, formP z = f := ⟨_, rfl⟩
  have F1 : Hid (∀ W, Below w.heap.size w W → Calls Tryd.prog 10 #[.agg #[Value.int IntKind.i64 m.k, Value.string m.t, Value.int IntKind.i64 m.n, Value.slice am m.ks.length cm]] W fun e w' => e = .returned (.int .i64 fm) ∧ Below W.heap.size W w') := fun W b => by rw [← hfm]; exact form_any m W _ _ (hm.bel b) zm4 tm' (he.bel b)
  have F2 : Hid (∀ W, Below w.heap.size w W → Calls Tryd.prog 10 #[.agg #[Value.int IntKind.i64 x.k, Value.string x.t, Value.int IntKind.i64 x.n, Value.slice ax x.ks.length cx]] W fun e w' => e = .returned (.int .i64 fx) ∧ Below W.heap.size W w') := fun W b => by rw [← hfx]; exact form_any x W _ _ (hx.bel b) zx4 tx' (he.bel b)
  have F3 : Hid (∀ W S a4 c4, Below w.heap.size w W → LAt W S (.slice a4 z.ks.length c4) z.ks → Calls Tryd.prog 10 #[.agg #[Value.int IntKind.i64 z.k, Value.string z.t, Value.int IntKind.i64 z.n, Value.slice a4 z.ks.length c4]] W fun e w' => e = .returned (.int .i64 fz) ∧ Below W.heap.size W w') := fun W S a4 c4 b l => by rw [← hfz]; exact form_any z W _ _ l zz zt (he.bel b)
  have HF : Hid ((x.k = 8 ∨ x.k = 16) → fx = 1 → fm = 1 → (k : Int) = 1 → fz = 1) := fun h1 h2 h3 h4 => by
    have hk1 : k = 1 := by omega
    rw [← hfz, ← hz, hk1]
    exact form_back x m h1 (hfx.trans h2) (hfm.trans h3) (by have := x.flat_len; omega)
  have AW : Hid (∀ W, Below w.heap.size w W → Calls Tryd.prog 13 #[] W fun e w' => e = .returned (.bool true) ∧ Below W.heap.size W w') := fun W b => awake_any W (he.bel b)
  unfold Nd.v
  clear A1 hx hm tx tm tx' tm' hb1 hb3 hb4 hmz hkz hk zt yt hmem he hfm hfx hfz hz
  go_enter Tryd.func8, Tryd.ntmps8
  go_upto_region 4 with (go_at_call 21; refine (C1.out _ B0).mono ?_; rintro e W1 ⟨a1, c1, rfl, l1, b1⟩)
  obtain ⟨V1, hV1⟩ : ∃ W, W1.alloc (Obj.cells #[Value.int IntKind.i64 y.k, Value.string y.t, Value.int IntKind.i64 y.n, Value.slice a1 y.ks.length c1] 24) = W := ⟨_, rfl⟩
  have b1' : Below W1.heap.size W1 V1 := by rw [← hV1]; exact bel_a _ _
  have Y1 : Bx V1 W1.heap.size y a1 c1 := by rw [← hV1]; exact Bx.new _ _ _ _
  have X1 := (X0.bel b1).bel b1'
  have M1 := (M0.bel b1).bel b1'
  have B1 := nx.out _ _ (nx.out _ _ B0 b1) b1'
  have L1 := l1.bel b1'
  have s1 : w.heap.size + 1 < W1.heap.size := Nat.lt_of_lt_of_le (by simp) b1.size
  rw [hV1]
  clear hV1 X0 M0 B0 l1 b1 b1'
  generalize W1.heap.size = p1 at *
  obtain ⟨_, _, _, _⟩ := X1.cs
  obtain ⟨_, _, _, _⟩ := Y1.cs
  go_upto_region 5 with (go_at_call 22; refine (C2.out _ _ _ _ B1 L1).mono ?_; rintro e W2 ⟨a2, c2, rfl, l2, b2⟩)
  obtain ⟨V2, hV2⟩ : ∃ W, W2.alloc (Obj.cells #[Value.int IntKind.i64 x.k, Value.string x.t, Value.int IntKind.i64 x.n, Value.slice a2 x.ks.length c2] 24) = W := ⟨_, rfl⟩
  have b2' : Below W2.heap.size W2 V2 := by rw [← hV2]; exact bel_a _ _
  have Z2 : Bx V2 W2.heap.size x a2 c2 := by rw [← hV2]; exact Bx.new _ _ _ _
  have X2 := (X1.bel b2).bel b2'
  have Y2 := (Y1.bel b2).bel b2'
  have M2 := (M1.bel b2).bel b2'
  have B2 := nx.out _ _ (nx.out _ _ B1 b2) b2'
  have LY2 := (L1.bel b2).bel b2'
  have L2 := l2.bel b2'
  rw [hV2]
  clear hV2 X1 Y1 M1 B1 L1 l2 b2 b2'
  generalize W2.heap.size = p2 at *
  obtain ⟨_, _, _, _⟩ := X2.cs
  obtain ⟨_, _, _, _⟩ := Z2.cs
  go_upto_region 7 with (go_at_call 14; refine (C3.out _ _ _ _ B2 L2).mono ?_; rintro e W3 ⟨rfl, b3⟩)
  have X3 := X2.bel b3
  have Y3 := Y2.bel b3
  have M3 := M2.bel b3
  have B3 := nx.out _ _ B2 b3
  have LY3 := LY2.bel b3
  clear X2 Y2 M2 B2 LY2 L2 Z2 b3
  obtain ⟨_, _, _, _⟩ := X3.cs
  obtain ⟨_, _, _, _⟩ := M3.cs
  go_upto_region 8 with (go_at_call 22; refine (C4.out _ B3).mono ?_; rintro e W4 ⟨a4, c4, rfl, l4, b4⟩)
  obtain ⟨V4, hV4⟩ : ∃ W, W4.alloc (Obj.cells #[Value.int IntKind.i64 z.k, Value.string z.t, Value.int IntKind.i64 z.n, Value.slice a4 z.ks.length c4] 24) = W := ⟨_, rfl⟩
  have b4' : Below W4.heap.size W4 V4 := by rw [← hV4]; exact bel_a _ _
  have Z4 : Bx V4 W4.heap.size z a4 c4 := by rw [← hV4]; exact Bx.new _ _ _ _
  have X4 := (X3.bel b4).bel b4'
  have Y4 := (Y3.bel b4).bel b4'
  have M4 := (M3.bel b4).bel b4'
  have B4 := nx.out _ _ (nx.out _ _ B3 b4) b4'
  have LY4 := (LY3.bel b4).bel b4'
  have LZ4 := l4.bel b4'
  rw [hV4]
  clear hV4 X3 Y3 M3 B3 LY3 l4 b4 b4'
  generalize W4.heap.size = p4 at *
  have cs : Hid (∀ W', Below V4.heap.size V4 W' → ((W'.cell? ⟨p4, 0, none⟩ = some (.int .i64 z.k) ∧ W'.cell? ⟨p4, 1, none⟩ = some (.string z.t) ∧ W'.cell? ⟨p4, 2, none⟩ = some (.int .i64 z.n) ∧ W'.cell? ⟨p4, 3, none⟩ = some (.slice a4 z.ks.length c4)) ∧ (W'.cell? ⟨w.heap.size, 0, none⟩ = some (.int .i64 x.k) ∧ W'.cell? ⟨w.heap.size, 1, none⟩ = some (.string x.t) ∧ W'.cell? ⟨w.heap.size, 2, none⟩ = some (.int .i64 x.n) ∧ W'.cell? ⟨w.heap.size, 3, none⟩ = some (.slice ax x.ks.length cx)) ∧ (W'.cell? ⟨p1, 0, none⟩ = some (.int .i64 y.k) ∧ W'.cell? ⟨p1, 1, none⟩ = some (.string y.t) ∧ W'.cell? ⟨p1, 2, none⟩ = some (.int .i64 y.n) ∧ W'.cell? ⟨p1, 3, none⟩ = some (.slice a1 y.ks.length c1)) ∧ (W'.cell? ⟨w.heap.size + 1, 0, none⟩ = some (.int .i64 m.k) ∧ W'.cell? ⟨w.heap.size + 1, 1, none⟩ = some (.string m.t) ∧ W'.cell? ⟨w.heap.size + 1, 2, none⟩ = some (.int .i64 m.n) ∧ W'.cell? ⟨w.heap.size + 1, 3, none⟩ = some (.slice am m.ks.length cm)))) := fun W' b => ⟨(Z4.bel b).cs, (X4.bel b).cs, (Y4.bel b).cs, (M4.bel b).cs⟩
  have up : Hid (∀ W', Below V4.heap.size V4 W' → Below w.heap.size w W') := fun W' b => nx.out _ _ B4 b
  have nx4 : Hid (∀ W' W'', Below V4.heap.size V4 W' → Below W'.heap.size W' W'' → Below V4.heap.size V4 W'') := fun W' W'' b b' => b.trans (b'.mono b.size)
  have D0 : Below V4.heap.size V4 V4.drew := (Below.refl _ _).drew
  have S1 : Hid (∀ W, Below V4.heap.size V4 W → Calls Tryd.prog 16 #[.agg #[Value.int IntKind.i64 z.k, Value.string z.t, Value.int IntKind.i64 z.n, Value.slice a4 z.ks.length c4]] W fun e w' => e = .returned (.int .i64 (z.size : Nat)) ∧ Below W.heap.size W w') := fun W b => C5.out z W _ _ _ zz (LZ4.bel b)
  have S2 : Hid (∀ W, Below V4.heap.size V4 W → Calls Tryd.prog 16 #[.agg #[Value.int IntKind.i64 x.k, Value.string x.t, Value.int IntKind.i64 x.n, Value.slice ax x.ks.length cx]] W fun e w' => e = .returned (.int .i64 (x.size : Nat)) ∧ Below W.heap.size W w') := fun W b => C5.out x W _ _ _ zx4 (HX.out _ (up.out _ b))
  have S3 : Hid (∀ W, Below V4.heap.size V4 W → Calls Tryd.prog 16 #[.agg #[Value.int IntKind.i64 y.k, Value.string y.t, Value.int IntKind.i64 y.n, Value.slice a1 y.ks.length c1]] W fun e w' => e = .returned (.int .i64 (y.size : Nat)) ∧ Below W.heap.size W w') := fun W b => C5.out y W _ _ _ yz4 (LY4.bel b)
  have S4 : Hid (∀ W, Below V4.heap.size V4 W → Calls Tryd.prog 16 #[.agg #[Value.int IntKind.i64 m.k, Value.string m.t, Value.int IntKind.i64 m.n, Value.slice am m.ks.length cm]] W fun e w' => e = .returned (.int .i64 (m.size : Nat)) ∧ Below W.heap.size W w') := fun W b => C5.out m W _ _ _ zm4 (HM.out _ (up.out _ b))
  have wr1 : IntKind.i64.wrap ((x.size : Int) - (y.size : Int)) = (x.size : Int) - (y.size : Int) := by rw [IntKind.wrap_i64]; omega
  have wr2 : IntKind.i64.wrap ((x.size : Int) - (y.size : Int) + (m.size : Int)) = (z.size : Int) := by have := HZ.out; rw [IntKind.wrap_i64]; omega
  have t1 : True := trivial
  have t2 : True := trivial
  have t3 : True := trivial
  clear Y4 LY4 zx zm
  go_region_held3 (fun W' => ((W'.cell? ⟨p4, 0, none⟩ = some (.int .i64 z.k) ∧ W'.cell? ⟨p4, 1, none⟩ = some (.string z.t) ∧ W'.cell? ⟨p4, 2, none⟩ = some (.int .i64 z.n) ∧ W'.cell? ⟨p4, 3, none⟩ = some (.slice a4 z.ks.length c4)) ∧ (W'.cell? ⟨w.heap.size, 0, none⟩ = some (.int .i64 x.k) ∧ W'.cell? ⟨w.heap.size, 1, none⟩ = some (.string x.t) ∧ W'.cell? ⟨w.heap.size, 2, none⟩ = some (.int .i64 x.n) ∧ W'.cell? ⟨w.heap.size, 3, none⟩ = some (.slice ax x.ks.length cx)) ∧ (W'.cell? ⟨p1, 0, none⟩ = some (.int .i64 y.k) ∧ W'.cell? ⟨p1, 1, none⟩ = some (.string y.t) ∧ W'.cell? ⟨p1, 2, none⟩ = some (.int .i64 y.n) ∧ W'.cell? ⟨p1, 3, none⟩ = some (.slice a1 y.ks.length c1)) ∧ (W'.cell? ⟨w.heap.size + 1, 0, none⟩ = some (.int .i64 m.k) ∧ W'.cell? ⟨w.heap.size + 1, 1, none⟩ = some (.string m.t) ∧ W'.cell? ⟨w.heap.size + 1, 2, none⟩ = some (.int .i64 m.n) ∧ W'.cell? ⟨w.heap.size + 1, 3, none⟩ = some (.slice am m.ks.length cm))))
    (first | assumption | exact cs.out _ D4 | exact cs.out _ D3 | exact cs.out _ D2 | exact cs.out _ D1 | exact cs.out _ D0)
    (first
      | (go_at_call 16; have _t := t1; refine (S1.out _ D0).mono ?_; rintro e W5 ⟨rfl, b5⟩; have D1 := nx4.out _ _ D0 b5; clear t1)
      | (go_at_call 16; have _t := t2; refine (S2.out _ D1).mono ?_; rintro e W6 ⟨rfl, b6⟩; have D2 := nx4.out _ _ D1 b6; clear t2)
      | (go_at_call 16; have _t := t3; refine (S3.out _ D2).mono ?_; rintro e W7 ⟨rfl, b7⟩; have D3 := nx4.out _ _ D2 b7; clear t3)
      | (go_at_call 16; refine (S4.out _ D3).mono ?_; rintro e W8 ⟨rfl, b8⟩; have D4 := nx4.out _ _ D3 b8))
  have X8 := X4.bel D4
  have Z8 := Z4.bel D4
  have M8 := M4.bel D4
  have LZ8 := LZ4.bel D4
  have B8 := up.out _ D4
  clear X4 Z4 M4 LZ4 B4 S1 S2 S3 S4 cs up nx4 D0 D1 D2 D3 D4 b5 b6 b7 b8 wr1 wr2 C1 C2 C3 C4 C5 HZ
  obtain ⟨_, _, _, _⟩ := Z8.cs
  go_upto_region 11 with (go_at_call 21; refine (C6.out _ _ _ _ LZ8).mono ?_; rintro e W9 ⟨a9, c9, rfl, l9, b9⟩)
  obtain ⟨V9, hV9⟩ : ∃ W, W9.alloc (Obj.cells #[Value.int IntKind.i64 m.k, Value.string m.t, Value.int IntKind.i64 m.n, Value.slice a9 m.ks.length c9] 24) = W := ⟨_, rfl⟩
  have b9' : Below W9.heap.size W9 V9 := by rw [← hV9]; exact bel_a _ _
  have N9 : Bx V9 W9.heap.size m a9 c9 := by rw [← hV9]; exact Bx.new _ _ _ _
  have X9 := (X8.bel b9).bel b9'
  have Z9 := (Z8.bel b9).bel b9'
  have M9 := (M8.bel b9).bel b9'
  have B9 := nx.out _ _ (nx.out _ _ B8 b9) b9'
  have LZ9 := (LZ8.bel b9).bel b9'
  have L9 := l9.bel b9'
  rw [hV9]
  clear hV9 X8 Z8 M8 LZ8 B8 l9 b9 b9'
  generalize W9.heap.size = p9 at *
  obtain ⟨_, _, _, _⟩ := N9.cs
  obtain ⟨_, _, _, _⟩ := M9.cs
  go_upto_region 13 with (go_at_call 14; refine (C7.out _ _ _ _ B9 L9).mono ?_; rintro e W10 ⟨rfl, b10⟩)
  have X10 := X9.bel b10
  have Z10 := Z9.bel b10
  have M10 := M9.bel b10
  have B10 := nx.out _ _ B9 b10
  have LZ10 := LZ9.bel b10
  clear X9 Z9 M9 N9 B9 LZ9 L9 b10
  obtain ⟨_, _, _, _⟩ := M10.cs
  have kx : Hid (∀ W', Below W10.heap.size W10 W' → (W'.cell? ⟨w.heap.size, 0, none⟩ = some (.int .i64 x.k) ∧ W'.cell? ⟨w.heap.size, 1, none⟩ = some (.string x.t) ∧ W'.cell? ⟨w.heap.size, 2, none⟩ = some (.int .i64 x.n) ∧ W'.cell? ⟨w.heap.size, 3, none⟩ = some (.slice ax x.ks.length cx))) := fun W' b => (X10.bel b).cs
  have kz : Hid (∀ W', Below W10.heap.size W10 W' → (W'.cell? ⟨p4, 0, none⟩ = some (.int .i64 z.k) ∧ W'.cell? ⟨p4, 1, none⟩ = some (.string z.t) ∧ W'.cell? ⟨p4, 2, none⟩ = some (.int .i64 z.n) ∧ W'.cell? ⟨p4, 3, none⟩ = some (.slice a4 z.ks.length c4))) := fun W' b => (Z10.bel b).cs
  have kl : Hid (∀ W', Below W10.heap.size W10 W' → LAt W' _ (.slice a4 z.ks.length c4) z.ks) := fun W' b => LZ10.bel b
  clear X10 Z10 M10 LZ10
  have tk1 : True := trivial
  have tk2 : True := trivial
  by_cases h1 : fm = 1
  · subst h1
    by_cases h2 : x.k = 8 ∨ x.k = 16
    · have HF' := HF.out h2
      clear HF
      obtain ⟨q, hq⟩ : ∃ q, x.k = q := ⟨_, rfl⟩
      rw [hq] at h2 F2 kx ⊢
      clear hq
      by_cases h3 : fx = 1
      · subst h3
        by_cases h4 : (k : Int) = 1
        · obtain rfl : fz = 1 := HF' rfl rfl h4
          clear HF'
          rcases h2 with rfl | rfl
          all_goals
            go_wp2_with (first
              | (go_at_call 10; have _t := tk1; refine (F1.out _ B10).mono ?_; rintro e W11 ⟨rfl, b11⟩; have B11 := nx.out _ _ B10 b11; obtain ⟨_, _, _, _⟩ := kx.out _ b11; clear tk1)
              | (go_at_call 10; have _t := tk2; refine (F2.out _ B11).mono ?_; rintro e W12 ⟨rfl, b12⟩; have B12 := nx.out _ _ B11 b12; obtain ⟨_, _, _, _⟩ := kz.out _ (b11.trans (b12.mono b11.size)); clear tk2)
              | (go_at_call 10; refine (F3.out _ _ _ _ B12 (kl.out _ (b11.trans (b12.mono b11.size)))).mono ?_; rintro e W13 ⟨rfl, b13⟩; have B13 := nx.out _ _ B12 b13)
              | (go_at_call 13; refine (AW.out _ B13).mono ?_; rintro e W14 ⟨rfl, b14⟩; have B14 := nx.out _ _ B13 b14))
            go_ret
            exact ⟨rfl, B14⟩
        · clear HF'
          rcases h2 with rfl | rfl
          all_goals
            go_wp2_with (first
              | (go_at_call 10; have _t := tk1; refine (F1.out _ B10).mono ?_; rintro e W11 ⟨rfl, b11⟩; have B11 := nx.out _ _ B10 b11; obtain ⟨_, _, _, _⟩ := kx.out _ b11; clear tk1)
              | (go_at_call 10; have _t := tk2; refine (F2.out _ B11).mono ?_; rintro e W12 ⟨rfl, b12⟩; have B12 := nx.out _ _ B11 b12; obtain ⟨_, _, _, _⟩ := kz.out _ (b11.trans (b12.mono b11.size)); clear tk2)
              | (go_at_call 13; refine (AW.out _ B12).mono ?_; rintro e W14 ⟨rfl, b14⟩; have B14 := nx.out _ _ B12 b14))
            go_ret
            exact ⟨rfl, B14⟩
      · clear HF'
        rcases h2 with rfl | rfl
        all_goals
          go_wp2_with (first
            | (go_at_call 10; have _t := tk1; refine (F1.out _ B10).mono ?_; rintro e W11 ⟨rfl, b11⟩; have B11 := nx.out _ _ B10 b11; obtain ⟨_, _, _, _⟩ := kx.out _ b11; clear tk1)
            | (go_at_call 10; have _t := tk2; refine (F2.out _ B11).mono ?_; rintro e W12 ⟨rfl, b12⟩; have B12 := nx.out _ _ B11 b12; obtain ⟨_, _, _, _⟩ := kz.out _ (b11.trans (b12.mono b11.size)); clear tk2)
            | (go_at_call 13; refine (AW.out _ B12).mono ?_; rintro e W14 ⟨rfl, b14⟩; have B14 := nx.out _ _ B12 b14))
          go_ret
          exact ⟨rfl, B14⟩
    · have h5 : ¬ x.k = 8 := fun e => h2 (Or.inl e)
      have h6 : ¬ x.k = 16 := fun e => h2 (Or.inr e)
      clear h2 HF
      go_wp2_with (first
        | (go_at_call 10; have _t := tk1; refine (F1.out _ B10).mono ?_; rintro e W11 ⟨rfl, b11⟩; have B11 := nx.out _ _ B10 b11; obtain ⟨_, _, _, _⟩ := kx.out _ b11; clear tk1)
        | (go_at_call 13; refine (AW.out _ B11).mono ?_; rintro e W14 ⟨rfl, b14⟩; have B14 := nx.out _ _ B11 b14))
      go_ret
      exact ⟨rfl, B14⟩
  · clear HF
    go_wp2_with (first
      | (go_at_call 10; have _t := tk1; refine (F1.out _ B10).mono ?_; rintro e W11 ⟨rfl, b11⟩; have B11 := nx.out _ _ B10 b11; obtain ⟨_, _, _, _⟩ := kx.out _ b11; clear tk1)
      | (go_at_call 13; refine (AW.out _ B11).mono ?_; rintro e W14 ⟨rfl, b14⟩; have B14 := nx.out _ _ B11 b14))
    go_ret
    exact ⟨rfl, B14⟩

theorem walk (x : Nd) (vx : Value) (i : Int) (m : Nd) (vm : Value) (w : World) (hx : LAt w (fun b => b < w.heap.size) vx x.ks) (zx : x.size ≤ 1048576) (tx : ∀ z ∈ x.flat, z.t.size ≤ 1048576) (hi0 : -9223372036854775808 ≤ i) (hi1 : i ≤ 9223372036854775807) (hm : LAt w (fun b => b < w.heap.size) vm m.ks) (zm : m.size ≤ 1048576) (tm : ∀ z ∈ m.flat, z.t.size ≤ 1048576) (he : WEnv w) :
    Calls Tryd.prog 8 #[x.v vx, .int .i64 i, m.v vm] w fun e w' => e = .returned (.bool true) ∧ Below w.heap.size w w' := by
  by_cases h : i < 0 ∨ (x.flat.length : Int) ≤ i
  · exact walk_out x vx i m vm w hx zx tx hm he h
  · have := walk_in x vx i.toNat m vm w hx zx tx hm zm tm he (by omega)
    rwa [show ((i.toNat : Nat) : Int) = i by omega] at this
end Go.Proofs.YtggahoefbcnaiaaDoor.Back
