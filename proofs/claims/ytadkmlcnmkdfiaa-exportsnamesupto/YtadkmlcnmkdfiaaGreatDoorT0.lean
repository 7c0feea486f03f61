/- Own text. Trees, and how they lie in memory. -/
import Derived.Test.YtadkmlcnmkdfiaaGreatDoorChecked
import Derived.WalkKit
import Derived.WalkSmall
import Derived.WalkLawsBesides
import Derived.Laws.Rows
import Derived.Maps.AppendAt
import Derived.Deep.RegionHeld3
import Derived.Handy
namespace Go.Proofs.YtadkmlcnmkdfiaaGreatDoor
open Go.RowKit
set_option linter.unusedVariables false

/-- a tree: kind, text, number, kids. -/
inductive Nd where
  | mk (k : Int) (t : ByteArray) (n : Int) (ks : List Nd)
def Nd.k : Nd → Int | .mk k _ _ _ => k
def Nd.t : Nd → ByteArray | .mk _ t _ _ => t
def Nd.n : Nd → Int | .mk _ _ n _ => n
def Nd.ks : Nd → List Nd | .mk _ _ _ ks => ks
theorem Nd.eta : ∀ x : Nd, x = .mk x.k x.t x.n x.ks
  | .mk _ _ _ _ => rfl
theorem Nd.ext' {x y : Nd} (h1 : x.k = y.k) (h2 : x.t = y.t) (h3 : x.n = y.n) (h4 : x.ks = y.ks) : x = y := by
  cases x; cases y
  simp only [Nd.k, Nd.t, Nd.n, Nd.ks] at h1 h2 h3 h4
  subst h1 h2 h3 h4
  rfl
theorem Nd.ind {P : Nd → Prop} (h : ∀ x : Nd, (∀ y ∈ x.ks, P y) → P x) (x : Nd) : P x :=
  @Nd.rec P (fun ks => ∀ y ∈ ks, P y) (fun k t n ks ih => h (.mk k t n ks) ih) (fun y hy => by cases hy)
    (fun x xs hx hxs y hy => by
      rcases List.mem_cons.1 hy with rfl | hy
      · exact hx
      · exact hxs y hy) x

mutual
def Nd.size : Nd → Nat
  | .mk _ _ _ ks => 1 + sizes ks
def sizes : List Nd → Nat
  | [] => 0
  | x :: xs => x.size + sizes xs
end
mutual
def Nd.depth : Nd → Nat
  | .mk _ _ _ ks => 1 + depths ks
def depths : List Nd → Nat
  | [] => 0
  | x :: xs => max x.depth (depths xs)
end
mutual
def Nd.flat : Nd → List Nd
  | .mk k t n ks => .mk k t n ks :: flats ks
def flats : List Nd → List Nd
  | [] => []
  | x :: xs => x.flat ++ flats xs
end
mutual
/-- m in the place i of a tree, or of a row of trees. -/
def Nd.repl : Nd → Nat → Nd → Nd
  | .mk k t n ks, i, m => if i = 0 then m else .mk k t n (repls ks (i - 1) m)
def repls : List Nd → Nat → Nd → List Nd
  | [], _, _ => []
  | x :: xs, i, m => if i < x.size then x.repl i m :: xs else x :: repls xs (i - x.size) m
end

theorem Nd.size_eq (x : Nd) : x.size = 1 + sizes x.ks := by cases x; rw [Nd.size]; rfl
theorem Nd.depth_eq (x : Nd) : x.depth = 1 + depths x.ks := by cases x; rw [Nd.depth]; rfl
theorem Nd.flat_eq (x : Nd) : x.flat = x :: flats x.ks := by cases x; rw [Nd.flat]; rfl
theorem sizes_nil : sizes [] = 0 := by rw [sizes]
theorem sizes_cons (x : Nd) (xs : List Nd) : sizes (x :: xs) = x.size + sizes xs := by rw [sizes]
theorem depths_nil : depths [] = 0 := by rw [depths]
theorem depths_cons (x : Nd) (xs : List Nd) : depths (x :: xs) = max x.depth (depths xs) := by rw [depths]
theorem flats_nil : flats [] = [] := by rw [flats]
theorem flats_cons (x : Nd) (xs : List Nd) : flats (x :: xs) = x.flat ++ flats xs := by rw [flats]
theorem Nd.size_pos (x : Nd) : 1 ≤ x.size := by rw [Nd.size_eq]; omega
theorem sizes_append : ∀ a b : List Nd, sizes (a ++ b) = sizes a + sizes b
  | [], b => by simp [sizes_nil]
  | x :: a, b => by rw [List.cons_append, sizes_cons, sizes_cons, sizes_append a b]; omega
theorem flats_append : ∀ a b : List Nd, flats (a ++ b) = flats a ++ flats b
  | [], b => by simp [flats_nil]
  | x :: a, b => by rw [List.cons_append, flats_cons, flats_cons, flats_append a b, List.append_assoc]
theorem depths_append : ∀ a b : List Nd, depths (a ++ b) = max (depths a) (depths b)
  | [], b => by simp [depths_nil]
  | x :: a, b => by rw [List.cons_append, depths_cons, depths_cons, depths_append a b, Nat.max_assoc]
theorem sizes_len : ∀ l : List Nd, l.length ≤ sizes l
  | [] => by simp
  | x :: l => by rw [sizes_cons, List.length_cons]; have := x.size_pos; have := sizes_len l; omega
theorem sizes_mem : ∀ {l : List Nd} {x : Nd}, x ∈ l → x.size ≤ sizes l
  | y :: l, x, h => by
    rw [sizes_cons]
    rcases List.mem_cons.1 h with rfl | h
    · omega
    · have := sizes_mem h; omega
theorem flats_len : ∀ l : List Nd, (∀ x ∈ l, x.flat.length = x.size) → (flats l).length = sizes l
  | [], _ => by rw [flats_nil, sizes_nil]; rfl
  | x :: l, h => by rw [flats_cons, sizes_cons, List.length_append, h x (by simp), flats_len l (fun y hy => h y (by simp [hy]))]
theorem Nd.flat_len (x : Nd) : x.flat.length = x.size := by
  induction x using Nd.ind with
  | h x ih => rw [Nd.flat_eq, Nd.size_eq, List.length_cons, flats_len _ ih]; omega
theorem Nd.kid_size (x : Nd) {i : Nat} (h : i < x.ks.length) : x.ks[i].size < x.size := by
  have := sizes_mem (List.getElem_mem h)
  rw [x.size_eq]; omega
theorem take_sizes (l : List Nd) {i : Nat} (h : i < l.length) : sizes (l.take (i + 1)) = sizes (l.take i) + l[i].size := by
  rw [List.take_succ_eq_append_getElem h, sizes_append, sizes_cons, sizes_nil]; omega
theorem take_depths (l : List Nd) {i : Nat} (h : i < l.length) : depths (l.take (i + 1)) = max (depths (l.take i)) l[i].depth := by
  rw [List.take_succ_eq_append_getElem h, depths_append, depths_cons, depths_nil, Nat.max_zero]
theorem take_flats (l : List Nd) {i : Nat} (h : i < l.length) : flats (l.take (i + 1)) = flats (l.take i) ++ l[i].flat := by
  rw [List.take_succ_eq_append_getElem h, flats_append, flats_cons, flats_nil, List.append_nil]
theorem take_sizes_le (l : List Nd) (i : Nat) : sizes (l.take i) ≤ sizes l := by
  have : sizes (l.take i ++ l.drop i) = sizes l := by rw [List.take_append_drop]
  rw [sizes_append] at this
  omega
theorem depths_le : ∀ l : List Nd, (∀ x ∈ l, x.depth ≤ x.size) → depths l ≤ sizes l
  | [], _ => by simp [depths_nil]
  | x :: l, h => by
    rw [depths_cons, sizes_cons]
    have := h x (by simp)
    have := depths_le l (fun y hy => h y (by simp [hy]))
    omega
theorem Nd.depth_le (x : Nd) : x.depth ≤ x.size := by
  induction x using Nd.ind with
  | h x ih => rw [Nd.depth_eq, Nd.size_eq]; have := depths_le _ ih; omega

/-- the value of a tree whose kids are the list v. -/
def Nd.v (x : Nd) (v : Value) : Value := .agg #[.int .i64 x.k, .string x.t, .int .i64 x.n, v]
/-- the four cells from an address on hold that tree. -/
def Four (w : World) (b o : Nat) (x : Nd) (v : Value) : Prop :=
  w.cell? ⟨b, o, none⟩ = some (.int .i64 x.k) ∧ w.cell? ⟨b, o + 1, none⟩ = some (.string x.t) ∧ w.cell? ⟨b, o + 2, none⟩ = some (.int .i64 x.n) ∧ w.cell? ⟨b, o + 3, none⟩ = some v
theorem Four.of_block {w w' : World} {b o : Nat} {x : Nd} {v : Value} (h : Four w b o x v) (e : w'.heap[b]? = w.heap[b]?) : Four w' b o x v :=
  ⟨(World.cell?_of_block (a := ⟨b, _, none⟩) e).trans h.1, (World.cell?_of_block (a := ⟨b, _, none⟩) e).trans h.2.1, (World.cell?_of_block (a := ⟨b, _, none⟩) e).trans h.2.2.1, (World.cell?_of_block (a := ⟨b, _, none⟩) e).trans h.2.2.2⟩
theorem Four.lt {w : World} {b o : Nat} {x : Nd} {v : Value} (h : Four w b o x v) : b < w.heap.size := World.block_lt_of_cell? w _ h.1

/-- v is a list of these trees; its memory, and theirs, lies in blocks of S. -/
inductive LAt (w : World) (S : Nat → Prop) : Value → List Nd → Prop
  | nil (a : Option Addr) (c : Nat) : LAt w S (.slice a 0 c) []
  | row (bl o c : Nat) (ks : List Nd) (f : Nat → Value) (hS : S bl) (hb : bl < w.heap.size) (h4 : ∀ i (h : i < ks.length), Four w bl (o + i * 4) ks[i] (f i))
      (hk : ∀ i (h : i < ks.length), LAt w S (f i) ks[i].ks) : LAt w S (.slice (some ⟨bl, o, none⟩) ks.length c) ks

theorem LAt.op {w : World} {S : Nat → Prop} {v : Value} {ks : List Nd} (h : LAt w S v ks) : ∃ (a : Option Addr) (c bl o : Nat) (f : Nat → Value), v = .slice a ks.length c ∧
    (0 < ks.length → a = some ⟨bl, o, none⟩ ∧ S bl ∧ bl < w.heap.size) ∧ (∀ i (h : i < ks.length), Four w bl (o + i * 4) ks[i] (f i)) ∧ (∀ i (h : i < ks.length), LAt w S (f i) ks[i].ks) := by
  cases h with
  | nil a c => exact ⟨a, c, 0, 0, fun _ => default, rfl, fun h => by simp at h, fun i h => by simp at h, fun i h => by simp at h⟩
  | row bl o c ks f hS hb h4 hk => exact ⟨_, c, bl, o, f, rfl, fun _ => ⟨rfl, hS, hb⟩, h4, hk⟩
theorem LAt.keep {w w' : World} {S : Nat → Prop} {v : Value} {ks : List Nd} (h : LAt w S v ks) (hs : w.heap.size ≤ w'.heap.size) (hb : ∀ b, S b → b < w.heap.size → w'.heap[b]? = w.heap[b]?) : LAt w' S v ks := by
  induction h with
  | nil a c => exact .nil a c
  | row bl o c ks f hS hl h4 hk ih => exact .row bl o c ks f hS (by omega) (fun i hi => (h4 i hi).of_block (hb bl hS hl)) ih
theorem LAt.bel {w w' : World} {S : Nat → Prop} {v : Value} {ks : List Nd} (h : LAt w S v ks) (k : Below w.heap.size w w') : LAt w' S v ks := h.keep k.size (fun b _ hb => k.block b hb)
theorem LAt.mono {w : World} {S T : Nat → Prop} {v : Value} {ks : List Nd} (h : LAt w S v ks) (hT : ∀ b, S b → T b) : LAt w T v ks := by
  induction h with
  | nil a c => exact .nil a c
  | row bl o c ks f hS hl h4 hk ih => exact .row bl o c ks f (hT bl hS) hl h4 ih

theorem bytes_eq {a b : ByteArray} : a = b ↔ a.toList = b.toList := by
  constructor
  · rintro rfl; rfl
  · intro h
    have e : ∀ s : ByteArray, s.toList = s.data.toList := fun s => ByteArray.toList_eq s
    rw [e, e] at h
    cases a; cases b
    congr
    exact Array.toList_inj.1 h
end Go.Proofs.YtadkmlcnmkdfiaaGreatDoor
