/- Own text. A tree put into a place: its texts, and the contract within. -/
import Derived.Test.YtggahoefbcnaiabDoorT15
import Derived.Test.YtggahoefbcnaiabDoorNPlaces
namespace Go.Proofs.YtggahoefbcnaiabDoor
open Go.RowKit
set_option linter.unusedVariables false

theorem tx_repls : ∀ (l : List Nd) (m : Nd), m.tx → (∀ x ∈ l, x.tx ∧ ∀ i, (x.repl i m).tx) → ∀ i, ∀ y ∈ repls l i m, y.tx
  | [], m, hm, hl, i, y, hy => by rw [repls] at hy; cases hy
  | x :: l, m, hm, hl, i, y, hy => by
    rw [repls] at hy
    split at hy
    · rcases List.mem_cons.1 hy with rfl | hy
      · exact (hl x (by simp)).2 i
      · exact (hl y (by simp [hy])).1
    · rcases List.mem_cons.1 hy with rfl | hy
      · exact (hl y (by simp)).1
      · exact tx_repls l m hm (fun z hz => hl z (by simp [hz])) _ y hy
theorem Nd.tx_mk {k : Int} {t : ByteArray} {n : Int} {ks : List Nd} (ht : t.size ≤ 4194304) (h : ∀ y ∈ ks, y.tx) : (Nd.mk k t n ks).tx := fun y hy => by
  rw [Nd.flat_eq] at hy
  rcases List.mem_cons.1 hy with rfl | hy
  · exact ht
  · obtain ⟨x, hx, hy⟩ := flats_elim hy
    exact h x hx y hy
theorem Nd.tx_repl (m : Nd) (hm : m.tx) (x : Nd) : x.tx → ∀ i, (x.repl i m).tx := by
  induction x using Nd.ind with
  | h x ih =>
    intro hx i
    by_cases hi : i = 0
    · subst hi; rw [x.repl_zero]; exact hm
    · rw [x.repl_pos m (by omega)]
      exact Nd.tx_mk (hx x (by rw [Nd.flat_eq]; simp)) (tx_repls x.ks m hm (fun y hy => ⟨Nd.tx_kid hx hy, ih y hy (Nd.tx_kid hx hy)⟩) _)
theorem replace_in (x m : Nd) (w : World) (S Sm : Nat → Prop) (v vm : Value) (k : Nat) (hx : LAt w S v x.ks) (zx : x.size ≤ 4194304) (tx : x.tx) (hm : LAt w Sm vm m.ks) (zm : m.size ≤ 4194304) (tm : m.tx) (hk : k < x.flat.length) {z : Nd} (hz : x.repl k m = z) :
    Calls Tryd.prog 7 #[x.v v, .int .i64 (k : Int), m.v vm] w fun e w' => ∃ a c, e = .returned (.tuple #[.agg #[.int .i64 z.k, .string z.t, .int .i64 z.n, .slice a z.ks.length c], .bool true]) ∧ LAt w' (fun b => w.heap.size ≤ b ∧ b < w'.heap.size) (.slice a z.ks.length c) z.ks ∧ Below w.heap.size w w' := by
  subst hz
  refine (replace_any x m w S Sm v vm k hx zx tx hm zm tm).mono ?_
  rintro e w' ⟨bel, ⟨v', _, _, rfl, l⟩ | ⟨h, rfl⟩⟩
  · rw [Int.toNat_natCast] at l ⊢
    have l2 := l.lat
    obtain ⟨a, c, rfl⟩ := l2.sl
    exact ⟨a, c, rfl, l2, bel⟩
  · have := x.flat_len
    omega
end Go.Proofs.YtggahoefbcnaiabDoor
