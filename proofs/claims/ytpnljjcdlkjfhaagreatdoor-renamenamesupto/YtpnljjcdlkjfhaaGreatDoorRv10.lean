/- Own text. The form of a tree: Form of package tree. The contract of the document's function that reads the rune with which a text begins. -/
import Derived.Test.YtpnljjcdlkjfhaaGreatDoorRv09
import Derived.Deep.RegionHeld3
import Derived.Test.YtpnljjcdlkjfhaaGreatDoorRv05
import Derived.Handy
set_option linter.unusedVariables false
set_option linter.unusedSimpArgs false
namespace Go.Proofs.YtpnljjcdlkjfhaaGreatDoor
open Go.RowKit
theorem ite_len {c : Prop} [Decidable c] {a b : Rul} (h1 : a.ks.length ≤ 3) (h2 : b.ks.length ≤ 3) : (if c then a else b).ks.length ≤ 3 := by
  by_cases h : c
  · rw [if_pos h]; exact h1
  · rw [if_neg h]; exact h2
theorem ite_some {c : Prop} [Decidable c] {a r : Rul} {o : Option Rul} (h : (if c then some a else o) = some r) (h1 : a.ks.length ≤ 3) (h2 : o = some r → r.ks.length ≤ 3) : r.ks.length ≤ 3 := by
  by_cases hc : c
  · rw [if_pos hc] at h; cases h; exact h1
  · rw [if_neg hc] at h; exact h2 h
theorem exprR_len (k : Int) : (exprR k).ks.length ≤ 3 := by
  unfold exprR
  repeat (refine ite_len (by decide) ?_)
  decide
theorem typeR_len (k : Int) : (typeR k).ks.length ≤ 3 := by
  unfold typeR
  repeat (refine ite_len (by decide) ?_)
  decide
theorem stmtR_len (k : Int) : (stmtR k).ks.length ≤ 3 := by
  unfold stmtR
  repeat (refine ite_len (by decide) ?_)
  decide
theorem itemR_len (k : Int) : (itemR k).ks.length ≤ 3 := by
  unfold itemR
  repeat (refine ite_len (by decide) ?_)
  decide
theorem partR_len {k : Int} {r : Rul} (h : partR k = some r) : r.ks.length ≤ 3 := by
  unfold partR at h
  repeat (refine ite_some h (by decide) ?_; clear h; intro h)
  cases h
theorem ruleK_len {k : Int} {r : Rul} (h : ruleK k = some r) : r.ks.length ≤ 3 := by
  unfold ruleK at h
  split at h
  · cases h; exact exprR_len k
  split at h
  · cases h; exact typeR_len k
  split at h
  · cases h; exact stmtR_len k
  split at h
  · cases h; exact itemR_len k
  split at h
  · cases h; decide
  split at h
  · cases h; decide
  exact partR_len h

set_option maxRecDepth 100000 in
set_option maxHeartbeats 8000000 in
theorem whole_of (x : Nd) (zx : x.size ≤ 4194304) (tx : x.tx) (hF : FolC x) : WhoC x := by
  intro w S v fv mod hx hw
  have hrule := ruleOf_any x.k
  have hag := fun W (b : Below w.heap.size w W) (hp : PreA x) => agrees_any x W S v fv mod (hx.bel b) (hw.bel b) zx tx hp
  have hfo := fun W (b : Below w.heap.size w W) vr r (hp : PAt W vr r.ks) (h3 : r.ks.length ≤ 3) => hF W S v fv vr mod r (hx.bel b) (hw.bel b) hp h3
  obtain ⟨a, rfl⟩ : ∃ a, fv = .slice a 19 19 := by obtain ⟨bl, t, rfl, _⟩ := hw; exact ⟨_, rfl⟩
  obtain ⟨ax, cx, rfl⟩ := hx.sl
  have e1 : Hid (∀ o o' W1, Below ((w.alloc o).alloc o').heap.size ((w.alloc o).alloc o') W1 → Below w.heap.size w W1 ∧ W1.heap[w.heap.size]? = some o ∧ W1.heap[w.heap.size + 1]? = some o' ∧ w.heap.size + 2 ≤ W1.heap.size) := fun o o' W1 b => ⟨((bel_a w o).alloc (by simp) _).trans (b.mono (by simp; omega)), (b.block w.heap.size (by simp <;> omega)).trans (hold o' (by simp) (hnew o rfl)), (b.block (w.heap.size + 1) (by simp)).trans (hnew o' (by simp)), by have := b.size; simpa using this⟩
  unfold fmV Nd.v at *
  go_enter Tryz.func47, Tryz.ntmps47
  go_wp2_with fail
  refine (hrule _).mono ?_
  rintro e W1 ⟨r, b, vr, rfl, hb1, hb2, pa, b1⟩
  obtain ⟨bw, m0, m1, z2⟩ := e1.out _ _ _ b1
  obtain ⟨ar, rfl⟩ := pa.sl
  clear hrule e1 b1
  unfold Rul.v
  cases b
  · have hn := hb2 rfl
    have HW : Hid (wholeP mod x = false) := by show _ = _; unfold wholeP; rw [hn]
    clear hn hb1 hb2 hag hfo
    go_wp2
    go_ret
    exact ⟨ret_bool (by rw [HW.out]), bw.alloc bw.size _⟩
  · have hs := hb1 rfl
    have h3 := ruleK_len hs
    have HW : Hid (wholeP mod x = (folP mod x r && agreesP mod x)) := by show _ = _; unfold wholeP; rw [hs]
    have HP : Hid (folP mod x r = true → PreA x) := fun h => preA_of hs h
    clear hb1 hb2 hs
    obtain ⟨W2, hW2⟩ : ∃ W, W1.alloc (Obj.cells #[Value.int IntKind.i64 r.t, Value.int IntKind.i64 r.m, Value.slice ar r.ks.length r.ks.length, Value.int IntKind.i64 r.r] 135) = W := ⟨_, rfl⟩
    have b12 : Below W1.heap.size W1 W2 := by rw [← hW2]; exact bel_a _ _
    have bw2 : Below w.heap.size w W2 := bw.trans (b12.mono bw.size)
    have fo := hfo W2 bw2 _ r (pa.bel b12) h3
    have mR : W2.heap[W1.heap.size]? = some (.cells #[Value.int IntKind.i64 r.t, Value.int IntKind.i64 r.m, Value.slice ar r.ks.length r.ks.length, Value.int IntKind.i64 r.r] 135 (0, 0)) := by rw [← hW2]; exact hnew _ rfl
    have m0' := (b12.block _ (by omega)).trans m0
    have m1' := (b12.block _ (by omega)).trans m1
    obtain ⟨f0, f1⟩ := box2 ⟨_, m0'⟩
    obtain ⟨⟨c0, c1, c2, c3⟩, _⟩ := box4 m1'
    obtain ⟨⟨r0, r1, r2, r3⟩, _⟩ := box4 mR
    have aft : Hid (∀ W3, Below W2.heap.size W2 W3 → Below w.heap.size w W3 ∧ (W3.cell? ⟨w.heap.size, 0, none⟩ = some (.slice a 19 19) ∧ W3.cell? ⟨w.heap.size, 1, none⟩ = some (.bool mod)) ∧ (W3.cell? ⟨w.heap.size + 1, 0, none⟩ = some (.int .i64 x.k) ∧ W3.cell? ⟨w.heap.size + 1, 1, none⟩ = some (.string x.t) ∧ W3.cell? ⟨w.heap.size + 1, 2, none⟩ = some (.int .i64 x.n) ∧ W3.cell? ⟨w.heap.size + 1, 3, none⟩ = some (.slice ax x.ks.length cx))) := fun W3 b => by
      have hz := b12.size
      exact ⟨bw2.trans (b.mono bw2.size), box2 ⟨_, (b.block _ (by omega)).trans m0'⟩, (box4 ((b.block _ (by omega)).trans m1')).1⟩
    clear hfo m0 m1 m0' m1' mR b12 pa
    unfold Rul.v at fo
    cases hfb : folP mod x r
    · rw [hfb] at fo
      clear hag
      go_wp2_with (go_at_call 65; refine fo.mono ?_; rintro e W3 ⟨rfl, b3⟩)
      go_ret
      exact ⟨ret_bool (by rw [HW.out, hfb]; rfl), (aft.out _ b3).1⟩
    · rw [hfb] at fo
      have hag2 := fun W (b : Below w.heap.size w W) => hag W b (HP.out hfb)
      clear hag HP
      go_wp2_with (first
        | (go_at_call 65; refine fo.mono ?_; rintro e W3 ⟨rfl, b3⟩; obtain ⟨b4, ⟨g0, g1⟩, ⟨i0, i1, i2, i3⟩⟩ := aft.out _ b3)
        | (go_at_call 66; refine (hag2 _ b4).mono ?_; rintro e W4 ⟨rfl, b5⟩))
      go_ret
      exact ⟨ret_bool (by rw [HW.out, hfb]; simp), b4.trans (b5.mono b4.size)⟩

theorem form_all (x : Nd) : x.size ≤ 4194304 → x.tx → FolC x ∧ WhoC x := by
  induction x using Nd.ind with
  | h x ih =>
    intro zx tx
    have hF : FolC x := follows_of x zx tx (fun y hy => by
      have hy2 := ih y hy (by have := sizes_mem hy; have := x.size_eq; omega) (Nd.tx_kid tx hy)
      exact fits_of y hy2.1 hy2.2)
    exact ⟨hF, whole_of x zx tx hF⟩

/-- the form of a tree, as Form says. -/
def formP (x : Nd) : Int := if wholeP (x.k == 68) x = true then formK x.k else 0
theorem WEnv.bel {w w' : World} (h : WEnv w) (b : Below w.heap.size w w') : WEnv w' := by
  obtain ⟨t, fr, h⟩ := h
  exact ⟨t, fr, (b.block _ (Array.getElem?_eq_some_iff.1 h).1).trans h⟩
set_option maxRecDepth 100000 in
set_option maxHeartbeats 8000000 in
theorem form_any (x : Nd) (w : World) (S : Nat → Prop) (v : Value) (hx : LAt w S v x.ks) (zx : x.size ≤ 4194304) (tx : x.tx) (he : WEnv w) :
    Calls Tryz.prog 26 #[x.v v] w fun e w' => e = .returned (.int .i64 (formP x)) ∧ Below w.heap.size w w' := by
  have hwh := (form_all x zx tx).2
  have hfo := formOf_any x.k
  obtain ⟨ax, cx, rfl⟩ := hx.sl
  unfold Nd.v
  go_enter Tryz.func26, Tryz.ntmps26
  go_wp2_with fail
  obtain ⟨W0, hW0⟩ : ∃ W, w.alloc (Obj.cells #[Value.int IntKind.i64 x.k, Value.string x.t, Value.int IntKind.i64 x.n, Value.slice ax x.ks.length cx] 51) = W := ⟨_, rfl⟩
  have hb0 : Below w.heap.size w W0 := by rw [← hW0]; exact bel_a _ _
  have m0 : W0.heap[w.heap.size]? = some (.cells #[Value.int IntKind.i64 x.k, Value.string x.t, Value.int IntKind.i64 x.n, Value.slice ax x.ks.length cx] 51 (0, 0)) := by rw [← hW0]; exact hnew _ rfl
  have hl0 : w.heap.size < W0.heap.size := (Array.getElem?_eq_some_iff.1 m0).1
  rw [hW0]
  clear hW0
  have cell : ∀ W', Below W0.heap.size W0 W' → W'.cell? ⟨w.heap.size, 0, none⟩ = some (.int .i64 x.k) := fun W' b => (box4 ((b.block _ hl0).trans m0)).1.1
  have HC : Hid (∀ W', Below W0.heap.size W0 W' → W'.cell? ⟨w.heap.size, 0, none⟩ = some (.int .i64 x.k)) := cell
  clear cell
  have hwd : Hid (∀ W', Below W0.heap.size W0 W' → Calls Tryz.prog 46 #[] W' fun e w' => ∃ v, e = .returned v ∧ WAt w' v ∧ Below W'.heap.size W' w') := fun W' b => wordsF_any W' (he.bel (hb0.trans (b.mono hb0.size)))
  go_region_held3 (fun W' => W'.cell? ⟨w.heap.size, 0, none⟩ = some (.int .i64 x.k))
    (first | assumption | exact HC.out _ (Below.refl _ _).drew | exact HC.out _ ((Below.refl _ _).drew.alloc (Nat.le_refl _) _) | exact HC.out _ hB1 | exact HC.out _ (hB1.alloc hB1.size _) | exact HC.out _ ((hB1.setCell (Nat.le_refl _) _).setCell (Nat.le_refl _) _))
    (first
      | (go_at_call 46; refine (hwd.out _ (Below.refl _ _).drew).mono ?_; rintro e W1 ⟨fv, rfl, hwa, b1⟩; have hB1 : Below W0.heap.size W0 W1 := (Below.refl _ _).drew.trans b1; obtain ⟨fa, rfl⟩ : ∃ a, fv = .slice a 19 19 := (by obtain ⟨bl, t, rfl, _⟩ := hwa; exact ⟨_, rfl⟩))
      | (go_at_call 46; refine (hwd.out _ ((Below.refl _ _).drew.alloc (Nat.le_refl _) _)).mono ?_; rintro e W1 ⟨fv, rfl, hwa, b1⟩; have hB1 : Below W0.heap.size W0 W1 := ((Below.refl _ _).drew.alloc (Nat.le_refl _) _).trans (b1.mono (by simp)); have hz : W1.heap[W0.heap.size]? = some (.cells #[.slice none 0 0, .bool false] 84 (0, 0)) := (b1.block W0.heap.size (by simp)).trans (hnew _ rfl); obtain ⟨y0, y1⟩ := box2 ⟨_, hz⟩; have y2 : W1.frozen? ⟨W0.heap.size, 0, none⟩ = false := (by simp [World.frozen?, hz]); have y3 : W1.frozen? ⟨W0.heap.size, 1, none⟩ = false := (by simp [World.frozen?, hz]); obtain ⟨fa, rfl⟩ : ∃ a, fv = .slice a 19 19 := (by obtain ⟨bl, t, rfl, _⟩ := hwa; exact ⟨_, rfl⟩)))
  have hBC := hB1.alloc hB1.size (Obj.cells #[Value.slice fa 19 19, Value.bool (x.k == 68)] 84)
  have hwC := hwa.bel (bel_a W1 (Obj.cells #[Value.slice fa 19 19, Value.bool (x.k == 68)] 84))
  have mC : ∃ t, (W1.alloc (Obj.cells #[Value.slice fa 19 19, Value.bool (x.k == 68)] 84)).heap[W1.heap.size]? = some (.cells #[Value.slice fa 19 19, Value.bool (x.k == 68)] t (0, 0)) := ⟨_, hnew _ rfl⟩
  generalize W1.alloc (Obj.cells #[Value.slice fa 19 19, Value.bool (x.k == 68)] 84) = WC at *
  generalize W1.heap.size = C at *
  rotate_left
  have hBC := (hB1.setCell (p := ⟨W0.heap.size, 0, none⟩) (Nat.le_refl _) (Value.slice fa 19 19)).setCell (p := ⟨W0.heap.size, 1, none⟩) (Nat.le_refl _) (Value.bool (x.k == 68))
  have hwC : WAt ((W1.setCell ⟨W0.heap.size, 0, none⟩ (Value.slice fa 19 19)).setCell ⟨W0.heap.size, 1, none⟩ (Value.bool (x.k == 68))) (Value.slice fa 19 19) := by
    obtain ⟨bl, t, h1, h2⟩ := hwa
    refine ⟨bl, t, h1, ?_⟩
    have hne : bl ≠ W0.heap.size := fun e => by
      subst e
      rw [hz] at h2
      simp only [Option.some.injEq, Obj.cells.injEq] at h2
      have := congrArg Array.size h2.1
      simp [textC] at this
      cases this
    rw [Below.heap_setCell _ _ _ _ hne, Below.heap_setCell _ _ _ _ hne]
    exact h2
  have mC : ∃ t, ((W1.setCell ⟨W0.heap.size, 0, none⟩ (Value.slice fa 19 19)).setCell ⟨W0.heap.size, 1, none⟩ (Value.bool (x.k == 68))).heap[W0.heap.size]? = some (.cells #[Value.slice fa 19 19, Value.bool (x.k == 68)] t (0, 0)) := by
    refine ⟨84, ?_⟩
    simp [World.setCell, Array.getElem?_modify, hz]
  obtain ⟨C, hCe⟩ : ∃ C, C = W0.heap.size := ⟨_, rfl⟩
  clear y0 y1 y2 y3 hz
  rw [← hCe] at mC hwC ⊢
  generalize hWC : ((W1.setCell { block := C, off := 0 } (Value.slice fa 19 19)).setCell { block := C, off := 1 } (Value.bool (x.k == 68))) = WC at *
  replace hBC : Below W0.heap.size W0 WC := by rw [← hWC, hCe]; exact hBC
  clear hWC hCe
  rotate_left
  all_goals
    clear hB1 b1 hwa hwd
    have bw : Below w.heap.size w WC := hb0.trans (hBC.mono hb0.size)
    have mN := (hBC.block _ hl0).trans m0
    obtain ⟨⟨c0, c1, c2, c3⟩, _⟩ := box4 mN
    obtain ⟨g0, g1⟩ := box2 mC
    have wh := hwh WC S _ (Value.slice fa 19 19) (x.k == 68) (hx.bel bw) hwC
    have aft : Hid (∀ W3, Below WC.heap.size WC W3 → Below w.heap.size w W3 ∧ W3.cell? ⟨w.heap.size, 0, none⟩ = some (.int .i64 x.k)) := fun W3 b => ⟨bw.trans (b.mono bw.size), HC.out W3 (hBC.trans (b.mono hBC.size))⟩
    clear HC mN mC hwC hBC hwh
    unfold fmV Nd.v at wh
    cases hwb : wholeP (x.k == 68) x
    · rw [hwb] at wh
      go_wp2_with (go_at_call 47; refine wh.mono ?_; rintro e W3 ⟨rfl, b3⟩)
      go_ret
      exact ⟨by simp [formP, hwb], (aft.out _ b3).1⟩
    · rw [hwb] at wh
      go_wp2_with (first
        | (go_at_call 47; refine wh.mono ?_; rintro e W3 ⟨rfl, b3⟩; obtain ⟨b4, i0⟩ := aft.out _ b3)
        | (go_at_call 48; refine (hfo _).mono ?_; rintro e W4 ⟨rfl, rfl⟩))
      go_ret
      exact ⟨by simp [formP, hwb], b4⟩
/-- How many bytes the rune has with which a text begins, and which it is; 1 and -1: a byte that belongs to none. -/
def headL (l : List UInt8) : Int × Int := if strayL l then (1, -1) else (((decL l).2 : Int), ((decL l).1 : Int))

def headZ (n b0 b1 b2 b3 : Int) : Int × Int :=
  if b0 < 128 then (1, b0)
  else if b0 < 192 then (1, -1)
  else if b0 < 224 then
    if 2 ≤ n ∧ 128 ≤ b1 ∧ b1 < 192 ∧ 128 ≤ (b0 - 192) * 64 + b1 - 128 then (2, (b0 - 192) * 64 + b1 - 128) else (1, -1)
  else if b0 < 240 then
    if 3 ≤ n ∧ 128 ≤ b1 ∧ b1 < 192 ∧ 128 ≤ b2 ∧ b2 < 192 ∧ 2048 ≤ ((b0 - 224) * 64 + b1 - 128) * 64 + b2 - 128 ∧ ¬ (55296 ≤ ((b0 - 224) * 64 + b1 - 128) * 64 + b2 - 128 ∧ ((b0 - 224) * 64 + b1 - 128) * 64 + b2 - 128 < 57344) then (3, ((b0 - 224) * 64 + b1 - 128) * 64 + b2 - 128) else (1, -1)
  else if b0 < 248 then
    if 4 ≤ n ∧ 128 ≤ b1 ∧ b1 < 192 ∧ 128 ≤ b2 ∧ b2 < 192 ∧ 128 ≤ b3 ∧ b3 < 192 ∧ 65536 ≤ (((b0 - 240) * 64 + b1 - 128) * 64 + b2 - 128) * 64 + b3 - 128 ∧ (((b0 - 240) * 64 + b1 - 128) * 64 + b2 - 128) * 64 + b3 - 128 ≤ 1114111 then (4, (((b0 - 240) * 64 + b1 - 128) * 64 + b2 - 128) * 64 + b3 - 128) else (1, -1)
  else (1, -1)

theorem headL_of {l : List UInt8} {r n : Nat} (h : decL l = (r, n)) (hne : ¬ (r = 65533 ∧ n = 1)) : headL l = ((n : Int), (r : Int)) := by
  rw [headL, strayL, h, if_neg (by simp; omega)]
theorem headL_bad {l : List UInt8} (h : decL l = (65533, 1)) : headL l = (1, -1) := by
  rw [headL, strayL, h]; rfl
theorem pair_eq {a b c d : Int} (h1 : a = c) (h2 : b = d) : (a, b) = (c, d) := by rw [h1, h2]

theorem headL_eq (l : List UInt8) : headL l = headZ l.length (atL l 0) (atL l 1) (atL l 2) (atL l 3) := by
  have a0 := atL_lt l 0
  have a1 := atL_lt l 1
  have a2 := atL_lt l 2
  have a3 := atL_lt l 3
  obtain ⟨d, hd⟩ : ∃ d, decL l = d := ⟨_, rfl⟩
  have hd' := hd
  unfold decL contL Utf8.valid at hd
  generalize atL l 0 = b0 at *
  generalize atL l 1 = b1 at *
  generalize atL l 2 = b2 at *
  generalize atL l 3 = b3 at *
  generalize l.length = n at *
  unfold headZ
  by_cases h1 : b0 < 128
  · rw [if_pos h1] at hd
    rw [if_pos (by omega), headL_of (hd'.trans hd.symm) (by omega)]
    rfl
  rw [if_neg h1] at hd
  rw [if_neg (by omega)]
  by_cases h2 : b0 < 192
  · rw [if_neg (by simp; omega), if_neg (by simp; omega), if_neg (by simp; omega)] at hd
    rw [if_pos (by omega), headL_bad (hd'.trans hd.symm)]
  rw [if_neg (by omega)]
  by_cases h3 : b0 < 224
  · rw [if_pos (by omega)]
    by_cases hq : (b0 / 32 == 6 && (decide (1 < n) && b1 / 64 == 2)) = true
    · rw [if_pos hq] at hd
      simp at hq
      by_cases hv : 128 ≤ b0 % 32 * 64 + b1 % 64
      · rw [if_pos (by omega)] at hd
        rw [if_pos (by omega), headL_of (hd'.trans hd.symm) (by omega)]
        exact pair_eq rfl (by omega)
      · rw [if_neg (by omega)] at hd
        rw [if_neg (by omega), headL_bad (hd'.trans hd.symm)]
    · rw [if_neg hq, if_neg (by simp; omega), if_neg (by simp; omega)] at hd
      simp at hq
      rw [if_neg (by omega), headL_bad (hd'.trans hd.symm)]
  rw [if_neg (by omega)]
  rw [if_neg (show ¬ (b0 / 32 == 6 && (decide (1 < n) && b1 / 64 == 2)) = true by simp; omega)] at hd
  by_cases h4 : b0 < 240
  · rw [if_pos (by omega)]
    by_cases hq : (b0 / 16 == 14 && (decide (1 < n) && b1 / 64 == 2) && (decide (2 < n) && b2 / 64 == 2)) = true
    · rw [if_pos hq] at hd
      simp at hq
      by_cases hv : (2048 ≤ b0 % 16 * 4096 + b1 % 64 * 64 + b2 % 64 ∧ ¬ (55296 ≤ b0 % 16 * 4096 + b1 % 64 * 64 + b2 % 64 ∧ b0 % 16 * 4096 + b1 % 64 * 64 + b2 % 64 < 57344))
      · rw [if_pos (by simp; omega)] at hd
        rw [if_pos (by omega), headL_of (hd'.trans hd.symm) (by omega)]
        exact pair_eq rfl (by omega)
      · rw [if_neg (by simp; omega)] at hd
        rw [if_neg (by omega), headL_bad (hd'.trans hd.symm)]
    · rw [if_neg hq, if_neg (by simp; omega)] at hd
      simp at hq
      rw [if_neg (by omega), headL_bad (hd'.trans hd.symm)]
  rw [if_neg (by omega)]
  rw [if_neg (show ¬ (b0 / 16 == 14 && (decide (1 < n) && b1 / 64 == 2) && (decide (2 < n) && b2 / 64 == 2)) = true by simp; omega)] at hd
  by_cases h5 : b0 < 248
  · rw [if_pos (by omega)]
    by_cases hq : (b0 / 8 == 30 && (decide (1 < n) && b1 / 64 == 2) && (decide (2 < n) && b2 / 64 == 2) && (decide (3 < n) && b3 / 64 == 2)) = true
    · rw [if_pos hq] at hd
      simp at hq
      by_cases hv : (65536 ≤ b0 % 8 * 262144 + b1 % 64 * 4096 + b2 % 64 * 64 + b3 % 64 ∧ b0 % 8 * 262144 + b1 % 64 * 4096 + b2 % 64 * 64 + b3 % 64 ≤ 1114111)
      · rw [if_pos (by simp; omega)] at hd
        rw [if_pos (by omega), headL_of (hd'.trans hd.symm) (by omega)]
        exact pair_eq rfl (by omega)
      · rw [if_neg (by simp; omega)] at hd
        rw [if_neg (by omega), headL_bad (hd'.trans hd.symm)]
    · rw [if_neg hq] at hd
      simp at hq
      rw [if_neg (by omega), headL_bad (hd'.trans hd.symm)]
  rw [if_neg (by simp; omega)] at hd
  rw [if_neg (by omega), headL_bad (hd'.trans hd.symm)]

theorem ret_ii {a b c d : Int} (h : (a, b) = (c, d)) : Ending.returned (.tuple #[.int .i64 a, .int .i64 b]) = .returned (.tuple #[.int .i64 c, .int .i64 d]) := by
  cases h; rfl

theorem byte_at (s : ByteArray) (k : Nat) (h : k < s.size) : (s[k]'h).toNat = atL s.data.toList k := by
  rw [← get_at s k h, get_drop]
  unfold atL
  simp

set_option maxHeartbeats 4000000 in
set_option maxRecDepth 100000 in
theorem head_any (s : ByteArray) (w : World) (h0 : 0 < s.size) (hs : s.size ≤ maxLen) :
    Calls Tryz.prog 39 #[.string s] w fun e w' => e = .returned (.tuple #[.int .i64 (headL s.data.toList).1, .int .i64 (headL s.data.toList).2]) ∧ w' = w := by
  unfold maxLen at hs
  have hz := headL_eq s.data.toList
  rw [← Lib.size_eq] at hz
  have l0 := atL_lt s.data.toList 0
  have l1 := atL_lt s.data.toList 1
  have l2 := atL_lt s.data.toList 2
  have l3 := atL_lt s.data.toList 3
  have e0 := byte_at s 0
  have e1 := byte_at s 1
  have e2 := byte_at s 2
  have e3 := byte_at s 3
  generalize atL s.data.toList 0 = b0 at *
  generalize atL s.data.toList 1 = b1 at *
  generalize atL s.data.toList 2 = b2 at *
  generalize atL s.data.toList 3 = b3 at *
  generalize headL s.data.toList = r at *
  obtain ⟨r1, r2⟩ := r
  have HZ : Hid ((r1, r2) = headZ s.size b0 b1 b2 b3) := hz
  clear hz
  by_cases c1 : b0 < 192
  · clear e1 e2 e3 l1 l2 l3
    go_enter Tryz.func39, Tryz.ntmps39
    go_wp2
    all_goals go_ret2
    all_goals (refine ⟨ret_ii ?_, rfl⟩; rw [HZ.out, headZ]; repeat' (first | rw [if_pos (by omega)] | rw [if_neg (by omega)]))
  by_cases c2 : b0 < 224
  · clear e2 e3 l2 l3
    by_cases hn : s.size < 2
    · clear e1
      go_enter Tryz.func39, Tryz.ntmps39
      go_wp2
      all_goals go_ret2
      all_goals (refine ⟨ret_ii ?_, rfl⟩; rw [HZ.out, headZ]; repeat' (first | rw [if_pos (by omega)] | rw [if_neg (by omega)]))
    · go_enter Tryz.func39, Tryz.ntmps39
      go_wp2
      go_rounds 2
      all_goals go_ret2
      all_goals (refine ⟨ret_ii ?_, rfl⟩; rw [HZ.out, headZ]; repeat' (first | rw [if_pos (by omega)] | rw [if_neg (by omega)]))
  by_cases c3 : b0 < 240
  · clear e3 l3
    by_cases hn : s.size < 3
    · clear e1 e2
      go_enter Tryz.func39, Tryz.ntmps39
      go_wp2
      all_goals go_ret2
      all_goals (refine ⟨ret_ii ?_, rfl⟩; rw [HZ.out, headZ]; repeat' (first | rw [if_pos (by omega)] | rw [if_neg (by omega)]))
    · go_enter Tryz.func39, Tryz.ntmps39
      go_wp2
      go_rounds 3
      all_goals go_ret2
      all_goals (refine ⟨ret_ii ?_, rfl⟩; rw [HZ.out, headZ]; repeat' (first | rw [if_pos (by omega)] | rw [if_neg (by omega)]))
  by_cases c4 : b0 < 248
  · by_cases hn : s.size < 4
    · clear e1 e2 e3
      go_enter Tryz.func39, Tryz.ntmps39
      go_wp2
      all_goals go_ret2
      all_goals (refine ⟨ret_ii ?_, rfl⟩; rw [HZ.out, headZ]; repeat' (first | rw [if_pos (by omega)] | rw [if_neg (by omega)]))
    · go_enter Tryz.func39, Tryz.ntmps39
      go_wp2
      go_rounds 4
      all_goals go_ret2
      all_goals (refine ⟨ret_ii ?_, rfl⟩; rw [HZ.out, headZ]; repeat' (first | rw [if_pos (by omega)] | rw [if_neg (by omega)]))
  · clear e1 e2 e3 l1 l2 l3
    go_enter Tryz.func39, Tryz.ntmps39
    go_wp2
    all_goals go_ret2
    all_goals (refine ⟨ret_ii ?_, rfl⟩; rw [HZ.out, headZ]; repeat' (first | rw [if_pos (by omega)] | rw [if_neg (by omega)]))
end Go.Proofs.YtpnljjcdlkjfhaaGreatDoor
