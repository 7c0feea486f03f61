/- Own text. Trees, and how they lie in memory. Numbers in decimal; the document's names. Mathematics: digits; which text tells a module and a name. Whether two trees are the same: the document's answer. How many trees one is, and how deep: the document's answers, and Depth of package tree. -/
import Derived.Test.YtpnljjcdlkjfhaaGreatDoorChecked
import Derived.WalkKit
import Derived.WalkSmall
import Derived.WalkLawsBesides
import Derived.Laws.Rows
import Derived.Maps.AppendAt
import Derived.Deep.RegionHeld3
import Derived.Handy
import Derived.Lib.AppendStr
import Derived.Laws.IdiomStrings
import Derived.Laws.BytesArg
import Derived.Laws.Concat
set_option linter.unusedVariables false
namespace Go.Proofs.YtpnljjcdlkjfhaaGreatDoor
open Go.RowKit
/-- a tree: kind, text, number, kids. -/
inductive Nd where
  | mk (k : Int) (t : ByteArray) (n : Int) (ks : List Nd)
def Nd.k : Nd → Int | .mk k _ _ _ => k
def Nd.t : Nd → ByteArray | .mk _ t _ _ => t
def Nd.n : Nd → Int | .mk _ _ n _ => n
def Nd.ks : Nd → List Nd | .mk _ _ _ ks => ks
theorem Nd.eta : ∀ x : Nd, x = .mk x.k x.t x.n x.ks
  | .mk _ _ _ _ => rfl
theorem Nd.ext' {x y : Nd} (h1 : x.k = y.k) (h2 : x.t = y.t) (h3 : x.n = y.n) (h4 : x.ks = y.ks) : x = y := by
  cases x; cases y
  simp only [Nd.k, Nd.t, Nd.n, Nd.ks] at h1 h2 h3 h4
  subst h1 h2 h3 h4
  rfl
theorem Nd.ind {P : Nd → Prop} (h : ∀ x : Nd, (∀ y ∈ x.ks, P y) → P x) (x : Nd) : P x :=
  @Nd.rec P (fun ks => ∀ y ∈ ks, P y) (fun k t n ks ih => h (.mk k t n ks) ih) (fun y hy => by cases hy)
    (fun x xs hx hxs y hy => by
      rcases List.mem_cons.1 hy with rfl | hy
      · exact hx
      · exact hxs y hy) x

mutual
def Nd.size : Nd → Nat
  | .mk _ _ _ ks => 1 + sizes ks
def sizes : List Nd → Nat
  | [] => 0
  | x :: xs => x.size + sizes xs
end
mutual
def Nd.depth : Nd → Nat
  | .mk _ _ _ ks => 1 + depths ks
def depths : List Nd → Nat
  | [] => 0
  | x :: xs => max x.depth (depths xs)
end
mutual
def Nd.flat : Nd → List Nd
  | .mk k t n ks => .mk k t n ks :: flats ks
def flats : List Nd → List Nd
  | [] => []
  | x :: xs => x.flat ++ flats xs
end
mutual
/-- m in the place i of a tree, or of a row of trees. -/
def Nd.repl : Nd → Nat → Nd → Nd
  | .mk k t n ks, i, m => if i = 0 then m else .mk k t n (repls ks (i - 1) m)
def repls : List Nd → Nat → Nd → List Nd
  | [], _, _ => []
  | x :: xs, i, m => if i < x.size then x.repl i m :: xs else x :: repls xs (i - x.size) m
end

theorem Nd.size_eq (x : Nd) : x.size = 1 + sizes x.ks := by cases x; rw [Nd.size]; rfl
theorem Nd.depth_eq (x : Nd) : x.depth = 1 + depths x.ks := by cases x; rw [Nd.depth]; rfl
theorem Nd.flat_eq (x : Nd) : x.flat = x :: flats x.ks := by cases x; rw [Nd.flat]; rfl
theorem sizes_nil : sizes [] = 0 := by rw [sizes]
theorem sizes_cons (x : Nd) (xs : List Nd) : sizes (x :: xs) = x.size + sizes xs := by rw [sizes]
theorem depths_nil : depths [] = 0 := by rw [depths]
theorem depths_cons (x : Nd) (xs : List Nd) : depths (x :: xs) = max x.depth (depths xs) := by rw [depths]
theorem flats_nil : flats [] = [] := by rw [flats]
theorem flats_cons (x : Nd) (xs : List Nd) : flats (x :: xs) = x.flat ++ flats xs := by rw [flats]
theorem Nd.size_pos (x : Nd) : 1 ≤ x.size := by rw [Nd.size_eq]; omega
theorem sizes_append : ∀ a b : List Nd, sizes (a ++ b) = sizes a + sizes b
  | [], b => by simp [sizes_nil]
  | x :: a, b => by rw [List.cons_append, sizes_cons, sizes_cons, sizes_append a b]; omega
theorem flats_append : ∀ a b : List Nd, flats (a ++ b) = flats a ++ flats b
  | [], b => by simp [flats_nil]
  | x :: a, b => by rw [List.cons_append, flats_cons, flats_cons, flats_append a b, List.append_assoc]
theorem depths_append : ∀ a b : List Nd, depths (a ++ b) = max (depths a) (depths b)
  | [], b => by simp [depths_nil]
  | x :: a, b => by rw [List.cons_append, depths_cons, depths_cons, depths_append a b, Nat.max_assoc]
theorem sizes_len : ∀ l : List Nd, l.length ≤ sizes l
  | [] => by simp
  | x :: l => by rw [sizes_cons, List.length_cons]; have := x.size_pos; have := sizes_len l; omega
theorem sizes_mem : ∀ {l : List Nd} {x : Nd}, x ∈ l → x.size ≤ sizes l
  | y :: l, x, h => by
    rw [sizes_cons]
    rcases List.mem_cons.1 h with rfl | h
    · omega
    · have := sizes_mem h; omega
theorem flats_len : ∀ l : List Nd, (∀ x ∈ l, x.flat.length = x.size) → (flats l).length = sizes l
  | [], _ => by rw [flats_nil, sizes_nil]; rfl
  | x :: l, h => by rw [flats_cons, sizes_cons, List.length_append, h x (by simp), flats_len l (fun y hy => h y (by simp [hy]))]
theorem Nd.flat_len (x : Nd) : x.flat.length = x.size := by
  induction x using Nd.ind with
  | h x ih => rw [Nd.flat_eq, Nd.size_eq, List.length_cons, flats_len _ ih]; omega
theorem Nd.kid_size (x : Nd) {i : Nat} (h : i < x.ks.length) : x.ks[i].size < x.size := by
  have := sizes_mem (List.getElem_mem h)
  rw [x.size_eq]; omega
theorem take_sizes (l : List Nd) {i : Nat} (h : i < l.length) : sizes (l.take (i + 1)) = sizes (l.take i) + l[i].size := by
  rw [List.take_succ_eq_append_getElem h, sizes_append, sizes_cons, sizes_nil]; omega
theorem take_depths (l : List Nd) {i : Nat} (h : i < l.length) : depths (l.take (i + 1)) = max (depths (l.take i)) l[i].depth := by
  rw [List.take_succ_eq_append_getElem h, depths_append, depths_cons, depths_nil, Nat.max_zero]
theorem take_flats (l : List Nd) {i : Nat} (h : i < l.length) : flats (l.take (i + 1)) = flats (l.take i) ++ l[i].flat := by
  rw [List.take_succ_eq_append_getElem h, flats_append, flats_cons, flats_nil, List.append_nil]
theorem take_sizes_le (l : List Nd) (i : Nat) : sizes (l.take i) ≤ sizes l := by
  have : sizes (l.take i ++ l.drop i) = sizes l := by rw [List.take_append_drop]
  rw [sizes_append] at this
  omega
theorem depths_le : ∀ l : List Nd, (∀ x ∈ l, x.depth ≤ x.size) → depths l ≤ sizes l
  | [], _ => by simp [depths_nil]
  | x :: l, h => by
    rw [depths_cons, sizes_cons]
    have := h x (by simp)
    have := depths_le l (fun y hy => h y (by simp [hy]))
    omega
theorem Nd.depth_le (x : Nd) : x.depth ≤ x.size := by
  induction x using Nd.ind with
  | h x ih => rw [Nd.depth_eq, Nd.size_eq]; have := depths_le _ ih; omega

/-- the value of a tree whose kids are the list v. -/
def Nd.v (x : Nd) (v : Value) : Value := .agg #[.int .i64 x.k, .string x.t, .int .i64 x.n, v]
/-- the four cells from an address on hold that tree. -/
def Four (w : World) (b o : Nat) (x : Nd) (v : Value) : Prop :=
  w.cell? ⟨b, o, none⟩ = some (.int .i64 x.k) ∧ w.cell? ⟨b, o + 1, none⟩ = some (.string x.t) ∧ w.cell? ⟨b, o + 2, none⟩ = some (.int .i64 x.n) ∧ w.cell? ⟨b, o + 3, none⟩ = some v
theorem Four.of_block {w w' : World} {b o : Nat} {x : Nd} {v : Value} (h : Four w b o x v) (e : w'.heap[b]? = w.heap[b]?) : Four w' b o x v :=
  ⟨(World.cell?_of_block (a := ⟨b, _, none⟩) e).trans h.1, (World.cell?_of_block (a := ⟨b, _, none⟩) e).trans h.2.1, (World.cell?_of_block (a := ⟨b, _, none⟩) e).trans h.2.2.1, (World.cell?_of_block (a := ⟨b, _, none⟩) e).trans h.2.2.2⟩
theorem Four.lt {w : World} {b o : Nat} {x : Nd} {v : Value} (h : Four w b o x v) : b < w.heap.size := World.block_lt_of_cell? w _ h.1

/-- v is a list of these trees; its memory, and theirs, lies in blocks of S. -/
inductive LAt (w : World) (S : Nat → Prop) : Value → List Nd → Prop
  | nil (a : Option Addr) (c : Nat) : LAt w S (.slice a 0 c) []
  | row (bl o c : Nat) (ks : List Nd) (f : Nat → Value) (hS : S bl) (hb : bl < w.heap.size) (h4 : ∀ i (h : i < ks.length), Four w bl (o + i * 4) ks[i] (f i))
      (hk : ∀ i (h : i < ks.length), LAt w S (f i) ks[i].ks) : LAt w S (.slice (some ⟨bl, o, none⟩) ks.length c) ks

theorem LAt.op {w : World} {S : Nat → Prop} {v : Value} {ks : List Nd} (h : LAt w S v ks) : ∃ (a : Option Addr) (c bl o : Nat) (f : Nat → Value), v = .slice a ks.length c ∧
    (0 < ks.length → a = some ⟨bl, o, none⟩ ∧ S bl ∧ bl < w.heap.size) ∧ (∀ i (h : i < ks.length), Four w bl (o + i * 4) ks[i] (f i)) ∧ (∀ i (h : i < ks.length), LAt w S (f i) ks[i].ks) := by
  cases h with
  | nil a c => exact ⟨a, c, 0, 0, fun _ => default, rfl, fun h => by simp at h, fun i h => by simp at h, fun i h => by simp at h⟩
  | row bl o c ks f hS hb h4 hk => exact ⟨_, c, bl, o, f, rfl, fun _ => ⟨rfl, hS, hb⟩, h4, hk⟩
theorem LAt.keep {w w' : World} {S : Nat → Prop} {v : Value} {ks : List Nd} (h : LAt w S v ks) (hs : w.heap.size ≤ w'.heap.size) (hb : ∀ b, S b → b < w.heap.size → w'.heap[b]? = w.heap[b]?) : LAt w' S v ks := by
  induction h with
  | nil a c => exact .nil a c
  | row bl o c ks f hS hl h4 hk ih => exact .row bl o c ks f hS (by omega) (fun i hi => (h4 i hi).of_block (hb bl hS hl)) ih
theorem LAt.bel {w w' : World} {S : Nat → Prop} {v : Value} {ks : List Nd} (h : LAt w S v ks) (k : Below w.heap.size w w') : LAt w' S v ks := h.keep k.size (fun b _ hb => k.block b hb)
theorem LAt.mono {w : World} {S T : Nat → Prop} {v : Value} {ks : List Nd} (h : LAt w S v ks) (hT : ∀ b, S b → T b) : LAt w T v ks := by
  induction h with
  | nil a c => exact .nil a c
  | row bl o c ks f hS hl h4 hk ih => exact .row bl o c ks f (hT bl hS) hl h4 ih

theorem bytes_eq {a b : ByteArray} : a = b ↔ a.toList = b.toList := by
  constructor
  · rintro rfl; rfl
  · intro h
    have e : ∀ s : ByteArray, s.toList = s.data.toList := fun s => ByteArray.toList_eq s
    rw [e, e] at h
    cases a; cases b
    congr
    exact Array.toList_inj.1 h
set_option linter.unusedSimpArgs false
/-- a number in decimal. -/
def dgL (n : Nat) : List UInt8 := if n ≤ 9 then [48 + n.toUInt8] else dgL (n / 10) ++ [48 + (n % 10).toUInt8]
termination_by n
decreasing_by omega
theorem ba_app (a b : List UInt8) : (⟨a.toArray⟩ : ByteArray) ++ ⟨b.toArray⟩ = ⟨(a ++ b).toArray⟩ := by
  apply ByteArray.ext
  simp
theorem dgL_len (n : Nat) : (dgL n).length ≤ n + 1 := by
  induction n using Nat.strongRecOn with
  | _ n ih =>
    rw [dgL]
    by_cases h : n ≤ 9
    · rw [if_pos h]; simp
    · rw [if_neg h, List.length_append]
      have := ih (n / 10) (by omega)
      simp
      omega
/-- .. is at most 19 digits. -/
theorem dgL_pow (k : Nat) : ∀ n, n < 10 ^ (k + 1) → (dgL n).length ≤ k + 1 := by
  induction k with
  | zero => intro n h; rw [dgL, if_pos (by omega)]; simp
  | succ k ih =>
    intro n h
    rw [dgL]
    by_cases h9 : n ≤ 9
    · rw [if_pos h9]; simp
    · rw [if_neg h9, List.length_append]
      have := ih (n / 10) (by rw [Nat.pow_succ] at h; omega)
      simp
      omega
set_option maxRecDepth 100000 in
theorem dig_table (w : World) : ∀ n : Nat, n ≤ 9 → (Instr.slice 9 (.string ⟨#[48, 49, 50, 51, 52, 53, 54, 55, 56, 57]⟩) (some (.int .i64 (n : Nat))) (some (.int .i64 ((n : Nat) + 1))) none).run Tryz.prog w = .ok (.string ⟨(dgL n).toArray⟩) w := by
  intro n h
  rw [dgL, if_pos h]
  match n, h with
  | 0, _ => rfl
  | 1, _ => rfl
  | 2, _ => rfl
  | 3, _ => rfl
  | 4, _ => rfl
  | 5, _ => rfl
  | 6, _ => rfl
  | 7, _ => rfl
  | 8, _ => rfl
  | 9, _ => rfl
set_option maxRecDepth 100000 in
set_option maxHeartbeats 4000000 in
/-- the document's digits. -/
theorem digD_any (n : Nat) : ∀ w : World, n ≤ 9223372036854775807 → Calls Tryz.prog 18 #[.int .i64 (n : Nat)] w fun e w' => e = .returned (.string ⟨(dgL n).toArray⟩) ∧ w' = w := by
  induction n using Nat.strongRecOn with
  | _ n ih =>
    intro w hn
    by_cases h9 : n ≤ 9
    · have hI : ((n : Nat) : Int) < 10 := by omega
      have HT := dig_table w n h9
      go_enter Tryz.func18, Tryz.ntmps18
      go_wp2
      go_ret
      exact ⟨rfl, rfl⟩
    · have hI : ¬ ((n : Nat) : Int) < 10 := by omega
      have HR : Hid (dgL n = dgL (n / 10) ++ dgL (n % 10)) := by
        show _ = _
        rw [dgL, if_neg h9, dgL.eq_def (n % 10), if_pos (by omega)]
      have C1 := ih (n / 10) (by omega)
      have C2 := ih (n % 10) (by omega)
      have e10 : ((n / 10 : Nat) : Int) = (n : Int) / 10 := by omega
      have e11 : ((n % 10 : Nat) : Int) = (n : Int) % 10 := by omega
      have hsz : (dgL (n / 10)).length + (dgL (n % 10)).length ≤ 9223372036854775807 := by
        have := dgL_pow 18 (n / 10) (by omega)
        have := dgL_pow 18 (n % 10) (by omega)
        omega
      rw [e10] at C1
      rw [e11] at C2
      go_enter Tryz.func18, Tryz.ntmps18
      go_wp2_with fail
      go_at_call 18
      refine (C1 _ (by omega)).mono ?_
      rintro e W1 ⟨rfl, rfl⟩
      go_wp2_with fail
      go_at_call 18
      refine (C2 _ (by omega)).mono ?_
      rintro e W2 ⟨rfl, rfl⟩
      go_wp2
      go_ret
      exact ⟨by rw [HR.out, ← ba_app]; rfl, rfl⟩
/-- the name of a top, as bytes; none of a number below 0. -/
def nmL (m : Int) (s : List UInt8) : List UInt8 := if m < 0 then [] else s ++ 36 :: dgL m.toNat
set_option maxRecDepth 100000 in
set_option maxHeartbeats 4000000 in
theorem nameD_any (m : Int) (s : ByteArray) (w : World) (h0 : -9223372036854775808 ≤ m) (h1 : m ≤ 9223372036854775807) (hs : s.size ≤ 1125899906842624) :
    Calls Tryz.prog 8 #[.int .i64 m, .string s] w fun e w' => e = .returned (.string ⟨(nmL m s.data.toList).toArray⟩) ∧ w' = w := by
  by_cases h : m < 0
  · have HR : Hid (nmL m s.data.toList = []) := if_pos h
    go_enter Tryz.func8, Tryz.ntmps8
    go_wp2
    go_ret
    exact ⟨by rw [HR.out]; rfl, rfl⟩
  · obtain ⟨n, rfl⟩ : ∃ n : Nat, m = n := ⟨m.toNat, by omega⟩
    have C := digD_any n w (by omega)
    have hz := dgL_pow 18 n (by omega)
    have HR : Hid (s ++ ⟨#[36]⟩ ++ ⟨(dgL n).toArray⟩ = (⟨(nmL n s.data.toList).toArray⟩ : ByteArray)) := by
      show _ = _
      unfold nmL
      rw [if_neg h]
      apply ByteArray.ext
      simp
    have hd1 : s.size + 1 ≤ 9223372036854775807 := by omega
    have hd2 : s.size + 1 + (dgL n).length ≤ 9223372036854775807 := by omega
    go_enter Tryz.func8, Tryz.ntmps8
    go_wp2_with fail
    go_at_call 18
    refine C.mono ?_
    rintro e W1 ⟨rfl, rfl⟩
    go_wp2
    go_ret
    exact ⟨by rw [← HR.out]; rfl, rfl⟩
set_option maxRecDepth 100000 in
set_option maxHeartbeats 4000000 in
theorem spaceD_any (m : Int) (w : World) (h0 : -9223372036854775808 ≤ m) (h1 : m ≤ 9223372036854775807) :
    Calls Tryz.prog 10 #[.int .i64 m] w fun e w' => e = .returned (.string ⟨(nmL m []).toArray⟩) ∧ w' = w := by
  have C := nameD_any m ⟨#[]⟩ w h0 h1 (by decide)
  go_enter Tryz.func10, Tryz.ntmps10
  go_wp2_with fail
  go_at_call 8
  refine C.mono ?_
  rintro e W1 ⟨rfl, rfl⟩
  go_wp2
  go_ret
  exact ⟨rfl, rfl⟩
theorem dgL_low (k : Nat) : ∀ n, 10 ^ k ≤ n → k + 1 ≤ (dgL n).length := by
  induction k with
  | zero =>
    intro n h
    rw [dgL]
    by_cases h9 : n ≤ 9
    · rw [if_pos h9]; simp
    · rw [if_neg h9]; simp
  | succ k ih =>
    intro n h
    have hp : 1 ≤ 10 ^ k := Nat.pow_pos (by omega)
    rw [Nat.pow_succ] at h
    rw [dgL, if_neg (by omega), List.length_append]
    have := ih (n / 10) (by omega)
    simp
    omega
theorem dgL_get : ∀ (n j : Nat) (h : j < (dgL n).length), (dgL n)[j] = 48 + ((n / 10 ^ ((dgL n).length - 1 - j)) % 10).toUInt8 := by
  intro n
  induction n using Nat.strongRecOn with
  | _ n ih =>
    intro j h
    by_cases h9 : n ≤ 9
    · have e : dgL n = [48 + n.toUInt8] := by rw [dgL, if_pos h9]
      have hl : (dgL n).length = 1 := by rw [e]; rfl
      obtain rfl : j = 0 := by omega
      have : (dgL n)[0] = 48 + n.toUInt8 := by simp [e]
      rw [this, hl]
      simp [Nat.mod_eq_of_lt (show n < 10 by omega)]
    · have e : dgL n = dgL (n / 10) ++ [48 + (n % 10).toUInt8] := by rw [dgL, if_neg h9]
      have hl : (dgL n).length = (dgL (n / 10)).length + 1 := by rw [e]; simp
      by_cases hj : j < (dgL (n / 10)).length
      · have g : (dgL n)[j] = (dgL (n / 10))[j] := by simp only [e]; rw [List.getElem_append_left hj]
        rw [g, ih (n / 10) (by omega) j hj, hl]
        have : (dgL (n / 10)).length + 1 - 1 - j = ((dgL (n / 10)).length - 1 - j) + 1 := by omega
        rw [this, Nat.pow_succ, Nat.mul_comm, Nat.div_div_eq_div_mul]
      · have : j = (dgL (n / 10)).length := by omega
        subst this
        have g : (dgL n)[(dgL (n / 10)).length] = 48 + (n % 10).toUInt8 := by simp [e]
        rw [g, hl]
        simp
/-- how many digits the lowest i make. -/
def lnD (n i : Nat) : Nat := (dgL (n % 10 ^ i)).length
theorem lnD_zero (n : Nat) : lnD n 0 = 1 := by
  unfold lnD
  rw [Nat.pow_zero, Nat.mod_one, dgL]; rfl
theorem pow10 (i : Nat) : 1 ≤ 10 ^ i := Nat.pow_pos (by omega)
theorem mod_succ (n i : Nat) : n % 10 ^ (i + 1) = (n / 10 ^ i % 10) * 10 ^ i + n % 10 ^ i := by
  rw [Nat.pow_succ, Nat.mod_mul, Nat.mul_comm, Nat.add_comm]
theorem lnD_same (n i : Nat) (h : n / 10 ^ i % 10 = 0) : lnD n (i + 1) = lnD n i := by
  unfold lnD
  rw [mod_succ, h]; simp
theorem lnD_more (n i : Nat) (h : n / 10 ^ i % 10 ≠ 0) : lnD n (i + 1) = i + 1 := by
  unfold lnD
  have hp := pow10 i
  have h1 : n % 10 ^ (i + 1) < 10 ^ (i + 1) := Nat.mod_lt _ (pow10 (i + 1))
  have h2 := dgL_pow i _ h1
  have h3 : 10 ^ i ≤ n % 10 ^ (i + 1) := by
    rw [mod_succ]
    have : 1 * 10 ^ i ≤ (n / 10 ^ i % 10) * 10 ^ i := Nat.mul_le_mul_right _ (by omega)
    omega
  have h4 := dgL_low i _ h3
  omega
theorem lnD_all (n : Nat) (h : n ≤ 9223372036854775807) : lnD n 19 = (dgL n).length := by
  unfold lnD
  rw [Nat.mod_eq_of_lt (by omega)]
theorem lnD_le (n : Nat) : ∀ i, 1 ≤ lnD n i ∧ lnD n i ≤ max 1 i
  | 0 => by rw [lnD_zero]; omega
  | i + 1 => by
    have := lnD_le n i
    by_cases h : n / 10 ^ i % 10 = 0
    · rw [lnD_same n i h]; omega
    · rw [lnD_more n i h]; omega
theorem dig_ne : ∀ d : Nat, d < 10 → (48 + d.toUInt8 : UInt8) ≠ 36 := by decide
theorem dgL_sign (n : Nat) : (36 : UInt8) ∉ dgL n := by
  induction n using Nat.strongRecOn with
  | _ n ih =>
    rw [dgL]
    by_cases h : n ≤ 9
    · rw [if_pos h]
      simp only [List.mem_singleton]
      exact (dig_ne n (by omega)).symm
    · rw [if_neg h, List.mem_append, List.mem_singleton]
      rintro (h | h)
      · exact ih (n / 10) (by omega) h
      · exact dig_ne (n % 10) (by omega) h.symm
theorem cut_sign {a b c d : List UInt8} (hb : (36 : UInt8) ∉ b) (hd : (36 : UInt8) ∉ d) (h : a ++ 36 :: b = c ++ 36 :: d) : a = c ∧ b = d := by
  rcases List.append_eq_append_iff.1 h with ⟨x, e, f⟩ | ⟨x, e, f⟩
  · cases x with
    | nil => simp at e f; exact ⟨e.symm, f⟩
    | cons y r =>
      simp at f
      exact absurd (by rw [f.2]; simp) hb
  · cases x with
    | nil => simp at e f; exact ⟨e, f.symm⟩
    | cons y r =>
      simp at f
      exact absurd (by rw [f.2]; simp) hd
theorem dgL_inj : ∀ m n : Nat, m < 64 → n < 64 → dgL m = dgL n → m = n := by
  have h : ∀ m : Fin 64, ∀ n : Fin 64, dgL m = dgL n → m = n := by decide +kernel
  intro m n hm hn e
  exact congrArg Fin.val (h ⟨m, hm⟩ ⟨n, hn⟩ e)
/-- a text tells a module and a name. -/
structure Bk (okN : List UInt8 → Bool) (s : List UInt8) (m : Nat) (n : List UInt8) : Prop where
  e : s = n ++ 36 :: dgL m
  lt : m < 64
  ok : okN n = true
theorem Bk.one {okN : List UInt8 → Bool} {s : List UInt8} {m m' : Nat} {n n' : List UInt8} (h : Bk okN s m n) (k : Bk okN s m' n') : m = m' ∧ n = n' := by
  have := cut_sign (dgL_sign m) (dgL_sign m') (h.e.symm.trans k.e)
  exact ⟨dgL_inj m m' h.lt k.lt this.2, this.1⟩
theorem bel_a (w : World) (o : Obj) : Below w.heap.size w (w.alloc o) := (Below.refl _ w).alloc (Nat.le_refl _) o
/-- a kid's cells and its own kids, in a later world. -/
theorem kid_at {w W : World} {S : Nat → Prop} {bl o k : Nat} {x : Nd} {v : Value} (h4 : Four w bl (o + k * 4) x v) (hk : LAt w S v x.ks) (hb : bl < w.heap.size) (bel : Below w.heap.size w W) :
    (W.cell? ⟨bl, o + k * 4, none⟩ = some (.int .i64 x.k) ∧ W.cell? ⟨bl, o + k * 4 + 1, none⟩ = some (.string x.t) ∧ W.cell? ⟨bl, o + k * 4 + 2, none⟩ = some (.int .i64 x.n) ∧ W.cell? ⟨bl, o + k * 4 + 3, none⟩ = some v) ∧ LAt W S v x.ks :=
  ⟨h4.of_block (bel.block bl hb), hk.bel bel⟩

set_option maxHeartbeats 4000000 in
theorem rsize_any (x : Nd) : ∀ (w : World) (S : Nat → Prop) (v : Value), LAt w S v x.ks → x.size ≤ 4194304 →
    Calls Tryz.prog 78 #[x.v v] w fun e w' => e = .returned (.int .i64 (x.size : Nat)) ∧ Below w.heap.size w w' := by
  induction x using Nd.ind with
  | h x ih =>
    intro w S v hx zx
    obtain ⟨ax, cx, bx, ox, fx, rfl, px, qx, rx⟩ := hx.op
    have zs := x.size_eq
    have lx := sizes_len x.ks
    have lx2 : x.ks.length ≤ 4194304 := by omega
    have tot := take_sizes_le x.ks
    unfold Nd.v
    go_enter Tryz.func78, Tryz.ntmps78
    go_wp2
    go_loopw [3, 4] (fun s i wr => ∃ k : Nat, i = .int .i64 (k : Nat) ∧ s = .int .i64 (1 + sizes (x.ks.take k) : Nat) ∧ k ≤ x.ks.length ∧ Below w.heap.size w wr ∧ w.heap.size < wr.heap.size ∧ wr.cell? ⟨w.heap.size, 3, none⟩ = some (.slice ax x.ks.length cx)) (fun _ i _ => x.ks.length - (intOf i).toNat)
    case atStart => exact ⟨0, rfl, by simp [sizes_nil], by omega, (Below.refl _ w).alloc (Nat.le_refl _) _, by simp, by simp⟩
    case round =>
      obtain ⟨k, rfl, rfl, hk, bel, sz, c1⟩ := hrel
      by_cases hkl : k < x.ks.length
      · obtain ⟨rfl, hSx, hbx⟩ := px (by omega)
        have iha := ih x.ks[k] (List.getElem_mem hkl)
        have zk := x.kid_size hkl
        have HS : Hid (sizes (x.ks.take (k + 1)) = sizes (x.ks.take k) + x.ks[k].size) := take_sizes x.ks hkl
        have hle := tot (k + 1)
        rw [HS.out] at hle
        obtain ⟨⟨u1, u2, u3, u4⟩, gx⟩ := kid_at (qx k hkl) (rx k hkl) hbx bel
        generalize x.ks[k] = xk at *
        generalize fx k = fxk at *
        generalize hs : sizes (x.ks.take k) = sk at *
        clear tot
        go_wp2_with (go_at_call 78; refine (iha _ S fxk gx (by omega)).mono ?_; rintro e W1 ⟨rfl, b1⟩)
        clear u1 u2 u3 u4 iha gx
        go_roundw
        case rel => exact ⟨k + 1, by simp, by rw [HS.out]; simp; omega, by omega, bel.trans (b1.mono bel.size), Nat.lt_of_lt_of_le sz b1.size, (b1.cell (p := ⟨w.heap.size, 3, none⟩) sz).trans c1⟩
        case measure => simp [intOf]; omega
      · have e : x.ks.take k = x.ks := List.take_of_length_le (by omega)
        rw [e, ← zs]
        clear e tot
        go_wp2
        go_ret
        exact ⟨rfl, bel⟩

set_option maxHeartbeats 4000000 in
theorem rdepth_any (x : Nd) : ∀ (w : World) (S : Nat → Prop) (v : Value), LAt w S v x.ks → x.size ≤ 4194304 →
    Calls Tryz.prog 148 #[x.v v] w fun e w' => e = .returned (.int .i64 (x.depth : Nat)) ∧ Below w.heap.size w w' := by
  induction x using Nd.ind with
  | h x ih =>
    intro w S v hx zx
    obtain ⟨ax, cx, bx, ox, fx, rfl, px, qx, rx⟩ := hx.op
    have zs := x.size_eq
    have lx := sizes_len x.ks
    have lx2 : x.ks.length ≤ 4194304 := by omega
    have hd := x.depth_le
    unfold Nd.v
    go_enter Tryz.func148, Tryz.ntmps148
    go_wp2
    go_loopw [3, 4] (fun s i wr => ∃ k : Nat, i = .int .i64 (k : Nat) ∧ s = .int .i64 (depths (x.ks.take k) : Nat) ∧ k ≤ x.ks.length ∧ Below w.heap.size w wr ∧ w.heap.size < wr.heap.size ∧ wr.cell? ⟨w.heap.size, 3, none⟩ = some (.slice ax x.ks.length cx)) (fun _ i _ => x.ks.length - (intOf i).toNat)
    case atStart => exact ⟨0, rfl, by simp [depths_nil], by omega, (Below.refl _ w).alloc (Nat.le_refl _) _, by simp, by simp⟩
    case round =>
      obtain ⟨k, rfl, rfl, hk, bel, sz, c1⟩ := hrel
      by_cases hkl : k < x.ks.length
      · obtain ⟨rfl, hSx, hbx⟩ := px (by omega)
        have iha := ih x.ks[k] (List.getElem_mem hkl)
        have zk := x.kid_size hkl
        have HS : Hid (depths (x.ks.take (k + 1)) = max (depths (x.ks.take k)) x.ks[k].depth) := take_depths x.ks hkl
        obtain ⟨⟨u1, u2, u3, u4⟩, gx⟩ := kid_at (qx k hkl) (rx k hkl) hbx bel
        generalize x.ks[k] = xk at *
        generalize fx k = fxk at *
        generalize hs : depths (x.ks.take k) = sk at *
        go_wp2_with (go_at_call 148; refine (iha _ S fxk gx (by omega)).mono ?_; rintro e W1 ⟨rfl, b1⟩)
        all_goals
          clear u1 u2 u3 u4 iha gx
          go_roundw
          case rel => exact ⟨k + 1, by simp, by rw [HS.out]; first | (congr 1; omega) | (simp; omega), by omega, bel.trans (b1.mono bel.size), Nat.lt_of_lt_of_le sz b1.size, (b1.cell (p := ⟨w.heap.size, 3, none⟩) sz).trans c1⟩
          case measure => simp [intOf]; omega
      · have e : x.ks.take k = x.ks := List.take_of_length_le (by omega)
        rw [e]
        have HD : Hid (x.depth = 1 + depths x.ks) := x.depth_eq
        have hd2 : depths x.ks ≤ 4194304 := by have := HD.out; omega
        clear e hd
        go_wp2
        go_ret
        exact ⟨by first | (rw [HD.out]; rfl) | (rw [HD.out]; simp; done) | (rw [HD.out]; congr 2; omega) | (rw [HD.out]; simp; omega) | rw [HD.out], bel⟩

end Go.Proofs.YtpnljjcdlkjfhaaGreatDoor
