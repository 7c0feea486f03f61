/- Own text. The document's Lex. -/
import Derived.Test.YtaiefheejgfefabDoorX8
import Derived.Maps.AppendAt
namespace Go.Proofs.YtaiefheejgfefabDoor
open Go.RowKit
set_option linter.unusedVariables false

def tokCells (x : Tk × Int) : List Value := [.int .i64 x.1.1, .string ⟨x.1.2.1.toArray⟩, .int .i64 x.1.2.2, .int .i64 x.2]
def rowT (ts : List (Tk × Int)) : List Value := ts.flatMap tokCells
theorem rowT_length (ts : List (Tk × Int)) : (rowT ts).length = ts.length * 4 := by
  induction ts with
  | nil => rfl
  | cons t ts ih =>
    unfold rowT at *
    rw [List.flatMap_cons, List.length_append, ih, List.length_cons]
    simp [tokCells]
    omega
theorem rowT_snoc (ts : List (Tk × Int)) (x : Tk × Int) : rowT (ts ++ [x]) = rowT ts ++ tokCells x := by simp [rowT]
abbrev ToksAt (w : World) (base : Nat) (v : Value) (ts : List (Tk × Int)) : Prop := w.ownsRow base 32 4 v ts.length (rowT ts)
/-- places as numbers. -/
def ints (ts : List (Tk × Nat)) : List (Tk × Int) := ts.map fun x => (x.1, (x.2 : Int))
theorem ints_length (ts : List (Tk × Nat)) : (ints ts).length = ts.length := by simp [ints]
theorem ints_snoc (ts : List (Tk × Nat)) (x : Tk × Nat) : ints (ts ++ [x]) = ints ts ++ [(x.1, (x.2 : Int))] := by simp [ints]

theorem info_tok : (Tryd.prog.info? 32).map (fun i => (i.zero, i.size, i.bytes)) = some (some (.agg #[.int .i64 0, .string ByteArray.empty, .int .i64 0, .int .i64 0]), 4, 40) := by kernel_rfl
theorem add_plain (b o n : Nat) : (⟨b, o, none⟩ : Addr).add n = ⟨b, o + n, none⟩ := by
  unfold Addr.add
  split
  · rename_i h; subst h; rfl
  · rfl
theorem cells_new (w : World) (cs : Array Value) (t : TypeId) : ∀ j u, cs.toList[j]? = some u → (w.alloc (.cells cs t)).cell? ((⟨w.heap.size, 0, none⟩ : Addr).add j) = some u := by
  intro j u h
  rw [add_plain, cell_of_row _ _ (0 + j) cs t (0, 0) (heap_alloc_new w _)]
  simpa using h
theorem cells_new2 (w : World) (cs : Array Value) (t : TypeId) (n : Nat) (hn : n = w.heap.size) : ∀ j u, cs.toList[j]? = some u → (w.alloc (.cells cs t)).cell? ((⟨n, 0, none⟩ : Addr).add j) = some u := by
  subst hn
  exact cells_new w cs t
theorem toks_app {w : World} {base : Nat} {v : Value} {ts : List (Tk × Int)} {x : Tk × Int} (h : w.ownsRow base 32 4 v (ts.length + 1) (rowT ts ++ tokCells x)) : ToksAt w base v (ts ++ [x]) := by
  have e1 : (ts ++ [x]).length = ts.length + 1 := by simp
  unfold ToksAt
  rw [e1, rowT_snoc]
  exact h

theorem next_err {l : Bs} {sc : Bool} {c : Nat} (h : nextL l sc = .error c) : c = 40 ∨ c = 41 := by
  unfold nextL at h
  split at h
  · cases h
  · split at h
    · unfold numbL at h
      split at h
      · cases h; exact .inl rfl
      · split at h
        · cases h; exact .inr rfl
        · cases h
    · split at h
      · unfold unqNx at h
        split at h
        · cases h
        · cases h; exact .inl rfl
      · unfold signNx at h
        split at h
        · cases h
        · cases h; exact .inl rfl

def lexRes (r : Lx) (base : Nat) (e : Ending) (w' : World) : Prop := match r with
  | .ok ts => ∃ v, e = .returned (.tuple #[v, .int .i64 0, .int .i64 0]) ∧ ToksAt w' base v (ints ts)
  | .error x => e = .returned (.tuple #[.slice none 0 0, .int .i64 (x.1 : Nat), .int .i64 (x.2 : Nat)])

end Go.Proofs.YtaiefheejgfefabDoor
