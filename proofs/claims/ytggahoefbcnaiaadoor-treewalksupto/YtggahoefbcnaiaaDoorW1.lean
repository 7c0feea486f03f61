/- Own text. All of package tree: the tree copied, and what goes over it. -/
import Derived.Test.YtggahoefbcnaiaaDoorNBx
import Derived.Deep.DeepCutAuto
namespace Go.Proofs.YtggahoefbcnaiaaDoor
open Go.RowKit
set_option linter.unusedVariables false
set_option linter.unusedSimpArgs false

set_option maxRecDepth 100000 in
set_option maxHeartbeats 4000000 in
theorem all_any (x : Nd) (w : World) (S : Nat → Prop) (v : Value) (hx : LAt w S v x.ks) (zx : x.size ≤ 4194304) (tx : x.tx) :
    Calls Tryd.prog 24 #[x.v v] w fun e w' => ∃ B a c, e = .returned (.func (.func 40) #[] #[.pointer (some ⟨B, 0, none⟩)]) ∧ Bx w' B x a c ∧ w.heap.size ≤ B ∧ LAt w' (fun b => w.heap.size ≤ b ∧ b < B) (.slice a x.ks.length c) x.ks ∧ Below w.heap.size w w' := by
  obtain ⟨ax, cx, rfl⟩ := hx.sl
  have X0 : Bx (w.alloc (Obj.cells #[Value.int IntKind.i64 x.k, Value.string x.t, Value.int IntKind.i64 x.n, Value.slice ax x.ks.length cx] 24)) w.heap.size x ax cx := Bx.new _ _ _ _
  have C := copy_any x _ _ _ (hx.bel (bel_a w (Obj.cells #[Value.int IntKind.i64 x.k, Value.string x.t, Value.int IntKind.i64 x.n, Value.slice ax x.ks.length cx] 24))) zx tx
  have B0 : Below w.heap.size w (w.alloc (Obj.cells #[Value.int IntKind.i64 x.k, Value.string x.t, Value.int IntKind.i64 x.n, Value.slice ax x.ks.length cx] 24)) := bel_a _ _
  unfold Nd.v at C ⊢
  go_enter Tryd.func24, Tryd.ntmps24
  go_upto_region 1 with fail
  generalize w.alloc (Obj.cells #[Value.int IntKind.i64 x.k, Value.string x.t, Value.int IntKind.i64 x.n, Value.slice ax x.ks.length cx] 24) = W0 at *
  have s0 := X0.lt
  obtain ⟨_, _, _, _⟩ := X0.cs
  go_wp2_with (go_at_call 15; refine C.mono ?_; rintro e W1 ⟨v1, rfl, sp, b1⟩; obtain ⟨a1, c1, rfl⟩ := sp.sl)
  have b2 := bel_a W1 (Obj.cells #[Value.int IntKind.i64 x.k, Value.string x.t, Value.int IntKind.i64 x.n, Value.slice a1 x.ks.length c1] 24)
  have hs := b1.size
  go_ret
  exact ⟨W1.heap.size, a1, c1, rfl, Bx.new _ _ _ _, by omega, (sp.lat.bel b2).mono (fun b hb => ⟨by have := hb.1; omega, hb.2⟩), B0.trans ((b1.trans (b2.mono hs)).mono (by omega))⟩
end Go.Proofs.YtggahoefbcnaiaaDoor
