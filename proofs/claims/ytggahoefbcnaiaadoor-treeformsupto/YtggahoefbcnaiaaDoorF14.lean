/- Own text. The document's examples of trees. -/
import Derived.Test.YtggahoefbcnaiaaDoorF13
import Derived.Test.YtggahoefbcnaiaaDoorT10
namespace Go.Proofs.YtggahoefbcnaiaaDoor
open Go.RowKit
set_option linter.unusedVariables false
set_option linter.unusedSimpArgs false

/-- numbers as trees; a sum of two. -/
def numN (n : Int) : Nd := .mk 1 ⟨#[]⟩ n []
def sumN : Nd := .mk 16 ⟨#[43]⟩ 0 [numN 1, numN 2]
def modN : Nd := .mk 68 ⟨#[]⟩ 0 []
theorem num_any (n : Int) (w : World) : Calls Tryd.prog 25 #[.int .i64 n] w fun e w' => e = .returned ((numN n).v (.slice none 0 0)) ∧ w' = w.alloc (.cells #[.int .i64 1, .string ⟨#[]⟩, .int .i64 n, .slice none 0 0] 24) := by
  go_enter Tryd.func25, Tryd.ntmps25
  go_wp2
  exact bodyPost_ret (res_nd Tryd.results25 (hnew _ rfl) rfl) rfl ⟨rfl, rfl⟩
theorem size_sum : sumN.size = 3 := by simp [sumN, numN, Nd.size_eq, sizes_cons, sizes_nil, Nd.ks]
theorem depth_sum : sumN.depth = 2 := by simp [sumN, numN, Nd.depth_eq, depths_cons, depths_nil, Nd.ks]
theorem flat_sum : sumN.flat = [sumN, numN 1, numN 2] := by simp [sumN, numN, Nd.flat_eq, flats_cons, flats_nil, Nd.ks]
theorem flat_num (n : Int) : (numN n).flat = [numN n] := by simp [numN, Nd.flat_eq, flats_nil, Nd.ks]
theorem flat_mod : modN.flat = [modN] := by simp [modN, Nd.flat_eq, flats_nil, Nd.ks]
theorem size_num (n : Int) : (numN n).size = 1 := by simp [numN, Nd.size_eq, sizes_nil, Nd.ks]
theorem size_mod : modN.size = 1 := by simp [modN, Nd.size_eq, sizes_nil, Nd.ks]
theorem whole_num (mod : Bool) (n : Int) (h0 : 0 ≤ n) (h1 : n ≤ 9007199254740991) : wholeP mod (numN n) = true := by
  have e : (⟨#[]⟩ : ByteArray).toList = [] := by rw [bytes_toList]
  simp [wholeP, numN, Nd.k, show ruleK 1 = some ⟨0, 9007199254740991, [], 0⟩ by rfl, folP, hdB, saysT, Nd.t, Nd.n, Nd.ks, fitsL_nil, agreesP, e]
  exact ⟨decide_eq_false (by omega), decide_eq_false (by omega)⟩
theorem form_num : formP (numN (-1)) = 0 := by
  have e : (⟨#[]⟩ : ByteArray).toList = [] := by rw [bytes_toList]
  simp [formP, wholeP, numN, Nd.k, show ruleK 1 = some ⟨0, 9007199254740991, [], 0⟩ by rfl, folP, hdB, saysT, Nd.t, Nd.n, Nd.ks, fitsL_nil, agreesP, e]
theorem form_mod : formP modN = 5 := by
  have e : (⟨#[]⟩ : ByteArray).toList = [] := by rw [bytes_toList]
  simp [formP, wholeP, modN, Nd.k, show ruleK 68 = some ⟨0, 0, [], 109⟩ by rfl, folP, hdB, saysT, Nd.t, Nd.n, Nd.ks, fitsL_nil, agreesP, e, formK]
theorem form_sum : formP sumN = 1 := by
  have w1 := whole_num false 1 (by decide) (by decide)
  have w2 := whole_num false 2 (by decide) (by decide)
  have k1 : ∀ n, (numN n).k = 1 := fun _ => rfl
  have s1 : standsK 101 1 = true := by rfl
  have hf : fitsL false [101, 101] 0 [numN 1, numN 2] = true := by
    rw [fitsL_cons, List.tail_cons, fitsL_cons, fitsL_nil, fitsP_eq, fitsP_eq, List.headD_cons, List.headD_cons, if_neg (by omega), if_neg (by omega), k1, k1, s1, w1, w2]
    rfl
  have hw : wholeP false sumN = true := by
    unfold wholeP
    rw [show ruleK sumN.k = some ⟨8, 0, [101, 101], 0⟩ by rfl]
    show (folP false sumN ⟨8, 0, [101, 101], 0⟩ && agreesP false sumN) = true
    have h1 : agreesP false sumN = true := by simp [agreesP, sumN, Nd.k]
    have h2 : folP false sumN ⟨8, 0, [101, 101], 0⟩ = true := by
      unfold folP
      rw [show fitsL false [101, 101] 0 sumN.ks = true from hf]
      simp [hdB, saysT, sumN, Nd.t, Nd.n, Nd.ks, binaryL]
    rw [h1, h2]; rfl
  unfold formP
  rw [show (sumN.k == 68) = false by rfl, hw]
  rfl
theorem tx_of {x : Nd} (h : ∀ y ∈ x.flat, y.t.size ≤ 1) : x.tx := fun y hy => Nat.le_trans (h y hy) (by decide)
theorem tx_sum : sumN.tx := tx_of (by rw [flat_sum]; intro y hy; simp at hy; rcases hy with rfl | rfl | rfl <;> decide)
theorem tx_num (n : Int) : (numN n).tx := tx_of (by rw [flat_num]; intro y hy; simp at hy; subst hy; exact Nat.zero_le _)
theorem tx_mod : modN.tx := tx_of (by rw [flat_mod]; intro y hy; simp at hy; subst hy; exact Nat.zero_le _)

set_option maxRecDepth 100000 in
set_option maxHeartbeats 8000000 in
theorem awake_any (w : World) (he : WEnv w) : Calls Tryd.prog 13 #[] w fun e w' => e = .returned (.bool true) ∧ Below w.heap.size w w' := by
  have hn := num_any
  unfold Nd.v at hn
  simp only [numN, Nd.k, Nd.t, Nd.n] at hn
  have tok1 : True := trivial
  go_enter Tryd.func13, Tryd.ntmps13
  go_wp2_with (go_at_call 25; refine (hn _ _).mono ?_; rintro e w' ⟨rfl, rfl⟩)
  clear hn
  obtain ⟨W0, hW0⟩ : ∃ W, ((((w.alloc (Obj.cells #[Value.int IntKind.i64 1, Value.string { data := #[] }, Value.int IntKind.i64 1, Value.slice none 0 0] 24)).alloc (Obj.cells #[Value.int IntKind.i64 1, Value.string { data := #[] }, Value.int IntKind.i64 2, Value.slice none 0 0] 24)).alloc (Obj.cells #[Value.int IntKind.i64 1, Value.string { data := #[] }, Value.int IntKind.i64 1, Value.slice none 0 0, Value.int IntKind.i64 1, Value.string { data := #[] }, Value.int IntKind.i64 2, Value.slice none 0 0] 24)).alloc (Obj.cells #[Value.int IntKind.i64 16, Value.string { data := #[43] }, Value.int IntKind.i64 0, Value.slice (some { block := w.heap.size + 1 + 1, off := 0 }) 2 2] 24)) = W := ⟨_, rfl⟩
  have b0 : Below w.heap.size w W0 := by rw [← hW0]; exact (((bel_a _ _).alloc (by simp) _).alloc (by simp <;> omega) _).alloc (by simp <;> omega) _
  have m3 : W0.heap[w.heap.size + 1 + 1 + 1]? = some (.cells #[Value.int IntKind.i64 16, Value.string { data := #[43] }, Value.int IntKind.i64 0, Value.slice (some { block := w.heap.size + 1 + 1, off := 0 }) 2 2] 24 (0, 0)) := by rw [← hW0]; exact hnew _ (by simp)
  have m2 : W0.heap[w.heap.size + 1 + 1]? = some (.cells #[Value.int IntKind.i64 1, Value.string { data := #[] }, Value.int IntKind.i64 1, Value.slice none 0 0, Value.int IntKind.i64 1, Value.string { data := #[] }, Value.int IntKind.i64 2, Value.slice none 0 0] 24 (0, 0)) := by rw [← hW0]; exact hold _ (by simp) (hnew _ (by simp))
  have hl0 : w.heap.size + 1 + 1 + 1 < W0.heap.size := (Array.getElem?_eq_some_iff.1 m3).1
  rw [hW0]
  clear hW0
  have hL : LAt W0 (fun b => b < W0.heap.size) (.slice (some ⟨w.heap.size + 1 + 1, 0, none⟩) 2 2) sumN.ks := by
    refine LAt.row (w.heap.size + 1 + 1) 0 2 [numN 1, numN 2] (fun _ => .slice none 0 0) (by omega) (by omega) (fun i hi => ?_) (fun i hi => ?_)
    · have C := fun j => cell_of_row W0 (w.heap.size + 1 + 1) j _ _ _ m2
      match i, hi with
      | 0, _ => exact ⟨by rw [C]; rfl, by rw [C]; rfl, by rw [C]; rfl, by rw [C]; rfl⟩
      | 1, _ => exact ⟨by rw [C]; rfl, by rw [C]; rfl, by rw [C]; rfl, by rw [C]; rfl⟩
    · match i, hi with
      | 0, _ => exact .nil _ _
      | 1, _ => exact .nil _ _
  have sv : sumN.v (.slice (some ⟨w.heap.size + 1 + 1, 0, none⟩) 2 2) = .agg #[Value.int IntKind.i64 16, Value.string { data := #[43] }, Value.int IntKind.i64 0, Value.slice (some { block := w.heap.size + 1 + 1, off := 0 }) 2 2] := rfl
  have z3 : sumN.size ≤ 4194304 := by rw [size_sum]; decide
  have hat := at_any sumN W0 _ _ 2 hL z3 tx_sum
  have hat2 : Calls Tryd.prog 21 #[.agg #[Value.int IntKind.i64 16, Value.string { data := #[43] }, Value.int IntKind.i64 0, Value.slice (some { block := w.heap.size + 1 + 1, off := 0 }) 2 2], .int .i64 2] W0 fun e w' => ∃ a c, e = .returned (.tuple #[.agg #[.int .i64 1, .string { data := #[] }, .int .i64 2, .slice a 0 c], .bool true]) ∧ Below W0.heap.size W0 w' := by
    rw [← sv]
    refine hat.mono ?_
    rintro e W1 ⟨b1, ⟨y, v', _, hy, rfl, sp⟩ | ⟨h, _⟩⟩
    · rw [flat_sum] at hy
      obtain rfl : y = numN 2 := by simpa using hy.symm
      obtain ⟨a, c, rfl⟩ := sp.sl
      exact ⟨a, c, rfl, b1⟩
    · rw [size_sum] at h; omega
  have F1 := fun W (b : Below W0.heap.size W0 W) => form_any sumN W _ _ (hL.bel b) z3 tx_sum (he.bel (b0.trans (b.mono b0.size)))
  have F2 := fun W (b : Below W0.heap.size W0 W) => size_any sumN W _ _ (hL.bel b) z3
  have F3 := fun W (b : Below W0.heap.size W0 W) => depth_any sumN W _ _ (hL.bel b) z3
  have F4 := fun W (b : Below W0.heap.size W0 W) => form_any modN W (fun _ => True) (.slice none 0 0) (.nil _ _) (by rw [size_mod]; decide) tx_mod (he.bel (b0.trans (b.mono b0.size)))
  have F5 := fun W (b : Below W0.heap.size W0 W) => form_any (numN (-1)) W (fun _ => True) (.slice none 0 0) (.nil _ _) (by rw [size_num]; decide) (tx_num _) (he.bel (b0.trans (b.mono b0.size)))
  rw [form_sum] at F1
  rw [size_sum] at F2
  rw [depth_sum] at F3
  rw [form_mod] at F4
  rw [form_num] at F5
  rw [sv] at F1 F2 F3
  unfold Nd.v at F4 F5
  simp only [numN, modN, Nd.k, Nd.t, Nd.n] at F4 F5
  have hn := num_any
  unfold Nd.v at hn
  simp only [numN, Nd.k, Nd.t, Nd.n] at hn
  have aft : Hid (∀ W, Below W0.heap.size W0 W → W.cell? ⟨w.heap.size + 1 + 1 + 1, 0, none⟩ = some (Value.int IntKind.i64 16) ∧ W.cell? ⟨w.heap.size + 1 + 1 + 1, 1, none⟩ = some (Value.string { data := #[43] }) ∧ W.cell? ⟨w.heap.size + 1 + 1 + 1, 2, none⟩ = some (Value.int IntKind.i64 0) ∧ W.cell? ⟨w.heap.size + 1 + 1 + 1, 3, none⟩ = some (Value.slice (some { block := w.heap.size + 1 + 1, off := 0 }) 2 2)) := fun W b => (box4 ((b.block _ hl0).trans m3)).1
  clear hat hL sv m2 m3 he
  go_wp2_with fail
  refine hat2.mono ?_
  rintro e W1 ⟨a1, c1, rfl, b1⟩
  clear hat2
  obtain ⟨W2, hW2⟩ : ∃ W, W1.alloc (Obj.cells #[Value.int IntKind.i64 1, Value.string { data := #[] }, Value.int IntKind.i64 2, Value.slice a1 0 c1] 24) = W := ⟨_, rfl⟩
  have b2 : Below W0.heap.size W0 W2 := by rw [← hW2]; exact b1.alloc b1.size _
  have m2 : W2.heap[W1.heap.size]? = some (.cells #[Value.int IntKind.i64 1, Value.string { data := #[] }, Value.int IntKind.i64 2, Value.slice a1 0 c1] 24 (0, 0)) := by rw [← hW2]; exact hnew _ rfl
  have hl2 : W1.heap.size < W2.heap.size := (Array.getElem?_eq_some_iff.1 m2).1
  have cx : Hid (∀ W, Below W2.heap.size W2 W → W.cell? ⟨W1.heap.size, 2, none⟩ = some (Value.int IntKind.i64 2)) := fun W b => (box4 ((b.block _ hl2).trans m2)).1.2.2.1
  obtain ⟨q0, q1, q2, q3⟩ := aft.out _ b2
  go_wp2_with (first
    | (go_at_call 10; have _t := tok1; refine (F1 _ b2).mono ?_; rintro e W3 ⟨rfl, b3⟩; have B3 := b2.trans (b3.mono b2.size); have X3 := (Below.refl W2.heap.size W2).trans b3; clear F1 tok1; obtain ⟨r0, r1, r2, r3⟩ := aft.out _ B3)
    | (go_at_call 16; refine (F2 _ B3).mono ?_; rintro e W4 ⟨rfl, b4⟩; have B4 := B3.trans (b4.mono B3.size); have X4 := X3.trans (b4.mono X3.size); obtain ⟨s0, s1, s2, s3⟩ := aft.out _ B4)
    | (go_at_call 18; refine (F3 _ B4).mono ?_; rintro e W5 ⟨rfl, b5⟩; have B5 := B4.trans (b5.mono B4.size); have X5 := X4.trans (b5.mono X4.size); have y5 := cx.out _ X5; have tok2 : True := trivial)
    | (go_at_call 10; have _t := tok2; refine (F4 _ B5).mono ?_; rintro e W6 ⟨rfl, b6⟩; have B6 := B5.trans (b6.mono B5.size); clear F4 tok2)
    | (go_at_call 25; refine (hn _ _).mono ?_; rintro e w' ⟨rfl, rfl⟩)
    | (go_at_call 10; refine (F5 _ (B6.alloc B6.size _)).mono ?_; rintro e W7 ⟨rfl, b7⟩))
  go_ret
  have h1 : Below W0.heap.size W0 W7 := (B6.alloc B6.size _).trans (b7.mono (by simp; have := B6.size; omega))
  exact ⟨rfl, b0.trans (h1.mono b0.size)⟩
end Go.Proofs.YtggahoefbcnaiaaDoor
