/- Own text. How many trees one is, and how deep: the document's answers, and Depth of package tree. -/
import Derived.Test.YtmfgcaffdkakhaaGreatT1
namespace Go.Proofs.YtmfgcaffdkakhaaGreat
open Go.RowKit
set_option linter.unusedVariables false

theorem bel_a (w : World) (o : Obj) : Below w.heap.size w (w.alloc o) := (Below.refl _ w).alloc (Nat.le_refl _) o
/-- a kid's cells and its own kids, in a later world. -/
theorem kid_at {w W : World} {S : Nat → Prop} {bl o k : Nat} {x : Nd} {v : Value} (h4 : Four w bl (o + k * 4) x v) (hk : LAt w S v x.ks) (hb : bl < w.heap.size) (bel : Below w.heap.size w W) :
    (W.cell? ⟨bl, o + k * 4, none⟩ = some (.int .i64 x.k) ∧ W.cell? ⟨bl, o + k * 4 + 1, none⟩ = some (.string x.t) ∧ W.cell? ⟨bl, o + k * 4 + 2, none⟩ = some (.int .i64 x.n) ∧ W.cell? ⟨bl, o + k * 4 + 3, none⟩ = some v) ∧ LAt W S v x.ks :=
  ⟨h4.of_block (bel.block bl hb), hk.bel bel⟩

end Go.Proofs.YtmfgcaffdkakhaaGreat
