/- Own text. A tree in a cell of its own. -/
import Derived.Test.YtggahoefbcnaiaaDoorT12
namespace Go.Proofs.YtggahoefbcnaiaaDoor
open Go.RowKit
set_option linter.unusedVariables false

/-- a tree in a cell of its own. -/
structure Bx (W : World) (p : Nat) (x : Nd) (a : Option Addr) (c : Nat) : Prop where
  h : W.heap[p]? = some (.cells #[.int .i64 x.k, .string x.t, .int .i64 x.n, .slice a x.ks.length c] 24 (0, 0))
theorem Bx.bel {W W' : World} {p : Nat} {x : Nd} {a : Option Addr} {c : Nat} (h : Bx W p x a c) (b : Below W.heap.size W W') : Bx W' p x a c := ⟨(b.block p (Array.getElem?_eq_some_iff.1 h.h).1).trans h.h⟩
theorem Bx.new (W : World) (x : Nd) (a : Option Addr) (c : Nat) : Bx (W.alloc (Obj.cells #[.int .i64 x.k, .string x.t, .int .i64 x.n, .slice a x.ks.length c] 24)) W.heap.size x a c := ⟨hnew _ rfl⟩
theorem Bx.cs {W : World} {p : Nat} {x : Nd} {a : Option Addr} {c : Nat} (h : Bx W p x a c) : W.cell? ⟨p, 0, none⟩ = some (.int .i64 x.k) ∧ W.cell? ⟨p, 1, none⟩ = some (.string x.t) ∧ W.cell? ⟨p, 2, none⟩ = some (.int .i64 x.n) ∧ W.cell? ⟨p, 3, none⟩ = some (.slice a x.ks.length c) := (box4 h.h).1
theorem Bx.fr {W : World} {p : Nat} {x : Nd} {a : Option Addr} {c : Nat} (h : Bx W p x a c) : W.frozen? ⟨p, 0, none⟩ = false ∧ W.frozen? ⟨p, 1, none⟩ = false ∧ W.frozen? ⟨p, 2, none⟩ = false ∧ W.frozen? ⟨p, 3, none⟩ = false := (box4 h.h).2
theorem Bx.lt {W : World} {p : Nat} {x : Nd} {a : Option Addr} {c : Nat} (h : Bx W p x a c) : p < W.heap.size := (Array.getElem?_eq_some_iff.1 h.h).1
/-- what Replace of package tree answers, in one form for both ways. -/
theorem replace_both (x m : Nd) (i : Int) (w : World) (S Sm : Nat → Prop) (v vm : Value) (hx : LAt w S v x.ks) (zx : x.size ≤ 4194304) (tx : x.tx) (hm : LAt w Sm vm m.ks) (zm : m.size ≤ 4194304) (tm : m.tx) (z : Nd) (ok : Bool)
    (hz : (0 ≤ i ∧ i < x.size ∧ z = x.repl i.toNat m ∧ ok = true) ∨ ((i < 0 ∨ (x.size : Int) ≤ i) ∧ z = zN ∧ ok = false)) :
    Calls Tryd.prog 22 #[x.v v, .int .i64 i, m.v vm] w fun e w' => ∃ a c, e = .returned (.tuple #[.agg #[.int .i64 z.k, .string z.t, .int .i64 z.n, .slice a z.ks.length c], .bool ok]) ∧ LAt w' (fun b => w.heap.size ≤ b ∧ b < w'.heap.size) (.slice a z.ks.length c) z.ks ∧ Below w.heap.size w w' := by
  refine (replace_any x m w S Sm v vm i hx zx tx hm zm tm).mono ?_
  rintro e w' ⟨bel, ⟨v', h0, h1, rfl, l⟩ | ⟨h, rfl⟩⟩
  · rcases hz with ⟨_, _, rfl, rfl⟩ | ⟨h, _⟩
    · have l2 := l.lat
      obtain ⟨a, c, rfl⟩ := l2.sl
      exact ⟨a, c, rfl, l2, bel⟩
    · omega
  · rcases hz with ⟨h0, h1, _⟩ | ⟨_, rfl, rfl⟩
    · omega
    · exact ⟨none, 0, rfl, .nil _ _, bel⟩
end Go.Proofs.YtggahoefbcnaiaaDoor
