/-
  No cell of these rows narrows 'for every input' (looked for: loops, veiled, ifaces, maps, wideKeys, modest, calm, conditions, laid).
  DERIVED. THE GIVEN ROWS OF THIS SEAT. 5 by the template 'for every input the law returns true; each argument reads behind the call as it read before'; 0 by the template 'total and deterministic' (their statements: YtlogohcfahmilaaTotals.lean).
  GIVEN WITH THE SEED: the statements are not yours to turn. If you find one false, say at which input.
  Laid BY PROGRAM, IN A SANDBOX (cutbox-rows.mjs): the forced cells as the released guide's own fill.sh prints them over the translation cac0987212bf1554… (all of the seat's roots in one cut). By AI agents, Wed Nov 11 2026. No macro, syntax, notation, axiom, sorry.
-/
import Derived.Test.YtlogohcfahmilaaChecked
import GoSem.Claim
import GoSem.ClaimJoined
import GoSem.ClaimMapViews
import Derived.JoinedTies
import Derived.KernelRfl
namespace Go.Proofs.Ytlogohcfahmilaa
/- THE CELL 'sum', in the pinned program and in every row, IS THE sha256 OF THE DUMP (.gsa) THAT YtlogohcfahmilaaProg.lean LOADS. Nothing in Lean hashes anything: it is a label: what it is worth is what the hold of that sum in a sandbox is worth. -/
noncomputable def Try.pinned : Pinned := { name := "ytlogohcfahmilaa", sum := "cac0987212bf1554ea54b36dc7f6bb7c360255ed4c4e48d341b535bc0dd3f9ed", checked := Try.checked }
namespace Rows
def none {H : Type} : Left H := { results := [], args := [] }

/-- 'gussetlaw03.PathNormals': WHATEVER THE INPUT: true; the input reads as it did. -/
def pathNormalsSpec : ChangeSpec := { name := "pathNormals", fn := fun _ => fun
  | [d] => { results := [.lit (.bool true)], args := [d] }
  | _ => none }
def pathNormalsRow : OpenClaim := { program := "ytlogohcfahmilaa", sum := "cac0987212bf1554ea54b36dc7f6bb7c360255ed4c4e48d341b535bc0dd3f9ed", func := "gusset/gussetlaw03.PathNormals", spec := "pathNormals", inPlace := ["internal/bytealg.IndexByteString", "internal/bytealg.IndexString"], named := ["internal/bytealg.MaxLen"], apart := false }
def PathNormalsSaid : Prop := pathNormalsRow.holds Try.pinned (OpenSpec.ofChange pathNormalsSpec)

/-- ITS FALSE NEIGHBOUR: 'it returns false'. Refute it at one input. -/
def pathNormalsWrong : ChangeSpec := { name := "pathNormals", fn := fun _ => fun
  | [d] => { results := [.lit (.bool false)], args := [d] }
  | _ => none }
def PathNormalsWrongFalsely : Prop := pathNormalsRow.holds Try.pinned (OpenSpec.ofChange pathNormalsWrong)

/-- 'gussetlaw03.PathJoins': WHATEVER THE INPUT: true; the input reads as it did. -/
def pathJoinsSpec : ChangeSpec := { name := "pathJoins", fn := fun _ => fun
  | [d1, d2] => { results := [.lit (.bool true)], args := [d1, d2] }
  | _ => none }
def pathJoinsRow : OpenClaim := { program := "ytlogohcfahmilaa", sum := "cac0987212bf1554ea54b36dc7f6bb7c360255ed4c4e48d341b535bc0dd3f9ed", func := "gusset/gussetlaw03.PathJoins", spec := "pathJoins", inPlace := ["internal/bytealg.IndexByteString", "internal/bytealg.IndexString"], named := ["internal/bytealg.MaxLen"], apart := false }
def PathJoinsSaid : Prop := pathJoinsRow.holds Try.pinned (OpenSpec.ofChange pathJoinsSpec)

/-- ITS FALSE NEIGHBOUR: 'it returns false'. Refute it at one input. -/
def pathJoinsWrong : ChangeSpec := { name := "pathJoins", fn := fun _ => fun
  | [d1, d2] => { results := [.lit (.bool false)], args := [d1, d2] }
  | _ => none }
def PathJoinsWrongFalsely : Prop := pathJoinsRow.holds Try.pinned (OpenSpec.ofChange pathJoinsWrong)

/-- 'gussetlaw03.PathProbes': WHATEVER THE INPUT: true; the input reads as it did. -/
def pathProbesSpec : ChangeSpec := { name := "pathProbes", fn := fun _ => fun
  | [d] => { results := [.lit (.bool true)], args := [d] }
  | _ => none }
def pathProbesRow : OpenClaim := { program := "ytlogohcfahmilaa", sum := "cac0987212bf1554ea54b36dc7f6bb7c360255ed4c4e48d341b535bc0dd3f9ed", func := "gusset/gussetlaw03.PathProbes", spec := "pathProbes", inPlace := ["internal/bytealg.IndexByteString", "internal/bytealg.IndexString"], named := ["internal/bytealg.MaxLen"], apart := false }
def PathProbesSaid : Prop := pathProbesRow.holds Try.pinned (OpenSpec.ofChange pathProbesSpec)

/-- ITS FALSE NEIGHBOUR: 'it returns false'. Refute it at one input. -/
def pathProbesWrong : ChangeSpec := { name := "pathProbes", fn := fun _ => fun
  | [d] => { results := [.lit (.bool false)], args := [d] }
  | _ => none }
def PathProbesWrongFalsely : Prop := pathProbesRow.holds Try.pinned (OpenSpec.ofChange pathProbesWrong)

/-- 'gussetlaw03.PathSettles': WHATEVER THE INPUT: true; the input reads as it did. -/
def pathSettlesSpec : ChangeSpec := { name := "pathSettles", fn := fun _ => fun
  | [d1, d2] => { results := [.lit (.bool true)], args := [d1, d2] }
  | _ => none }
def pathSettlesRow : OpenClaim := { program := "ytlogohcfahmilaa", sum := "cac0987212bf1554ea54b36dc7f6bb7c360255ed4c4e48d341b535bc0dd3f9ed", func := "gusset/gussetlaw03.PathSettles", spec := "pathSettles", inPlace := ["internal/bytealg.IndexByteString", "internal/bytealg.IndexString"], named := ["internal/bytealg.MaxLen"], apart := false }
def PathSettlesSaid : Prop := pathSettlesRow.holds Try.pinned (OpenSpec.ofChange pathSettlesSpec)

/-- ITS FALSE NEIGHBOUR: 'it returns false'. Refute it at one input. -/
def pathSettlesWrong : ChangeSpec := { name := "pathSettles", fn := fun _ => fun
  | [d1, d2] => { results := [.lit (.bool false)], args := [d1, d2] }
  | _ => none }
def PathSettlesWrongFalsely : Prop := pathSettlesRow.holds Try.pinned (OpenSpec.ofChange pathSettlesWrong)

/-- 'gussetlaw03.PathUp': WHATEVER THE INPUT: true; the input reads as it did. -/
def pathUpSpec : ChangeSpec := { name := "pathUp", fn := fun _ => fun
  | [d1, d2] => { results := [.lit (.bool true)], args := [d1, d2] }
  | _ => none }
def pathUpRow : OpenClaim := { program := "ytlogohcfahmilaa", sum := "cac0987212bf1554ea54b36dc7f6bb7c360255ed4c4e48d341b535bc0dd3f9ed", func := "gusset/gussetlaw03.PathUp", spec := "pathUp", inPlace := ["internal/bytealg.IndexByteString", "internal/bytealg.IndexString"], named := ["internal/bytealg.MaxLen"], apart := false }
def PathUpSaid : Prop := pathUpRow.holds Try.pinned (OpenSpec.ofChange pathUpSpec)

/-- ITS FALSE NEIGHBOUR: 'it returns false'. Refute it at one input. -/
def pathUpWrong : ChangeSpec := { name := "pathUp", fn := fun _ => fun
  | [d1, d2] => { results := [.lit (.bool false)], args := [d1, d2] }
  | _ => none }
def PathUpWrongFalsely : Prop := pathUpRow.holds Try.pinned (OpenSpec.ofChange pathUpWrong)

/- THE SECOND FORM. 'bulk': how many values and letters a reading holds, each counted each time it is reached (what is shared counts as often as it is met; a slice's spare places count too). A statement '..UptoSaid' is the law's where the arguments, and the package variables that the reading takes, are together of bulk at most 1048576: NARROWER than '..Said'. Prove '..Said' where nothing that the law and all that it calls make is longer than what came in: it says more and counts as full. Else prove '..UptoSaid'. A law counts once. -/
mutual
def uptoBulk {H : Type} : DataW H → Nat
  | .lit (.string bytes) => bytes.length + 1
  | .lit _ => 1
  | .nil => 1
  | .ptr d => uptoBulk d + 1
  | .slice elems spare => uptoBulkAll elems + uptoBulkAll spare + 1
  | .agg parts => uptoBulkAll parts + 1
  | .iface _ d => uptoBulk d + 1
  | .map entries => uptoBulkEntries entries + 1
  | .held _ => 1
def uptoBulkAll {H : Type} : List (DataW H) → Nat
  | [] => 0
  | d :: r => uptoBulk d + uptoBulkAll r
def uptoBulkEntries {H : Type} : List (Lit × DataW H) → Nat
  | [] => 0
  | x :: r => uptoBulkEntry x + uptoBulkEntries r
def uptoBulkEntry {H : Type} : Lit × DataW H → Nat
  | (.string bytes, d) => bytes.length + uptoBulk d + 1
  | (_, d) => uptoBulk d + 1
 end
def uptoSmall : (H : Type) → List (DataW H) → Bool := fun _ ds => decide (uptoBulkAll ds ≤ 1048576)
def OpenSpec.upto (s : _root_.Go.ChangeSpec) : _root_.Go.OpenSpec := { _root_.Go.OpenSpec.ofChange s with cond := some uptoSmall }

/-- 'gussetlaw03.PathNormals', WHERE WHAT IT READS IS OF BULK AT MOST 1048576: true; the input reads as it did. -/
def pathNormalsUptoRow : OpenClaim := { program := "ytlogohcfahmilaa", sum := "cac0987212bf1554ea54b36dc7f6bb7c360255ed4c4e48d341b535bc0dd3f9ed", func := "gusset/gussetlaw03.PathNormals", spec := "pathNormals", inPlace := ["internal/bytealg.IndexByteString", "internal/bytealg.IndexString"], named := ["internal/bytealg.MaxLen"], apart := false, narrowed := true }
def PathNormalsUptoSaid : Prop := pathNormalsUptoRow.holds Try.pinned (OpenSpec.upto pathNormalsSpec)

/-- 'gussetlaw03.PathJoins', WHERE WHAT IT READS IS OF BULK AT MOST 1048576: true; the input reads as it did. -/
def pathJoinsUptoRow : OpenClaim := { program := "ytlogohcfahmilaa", sum := "cac0987212bf1554ea54b36dc7f6bb7c360255ed4c4e48d341b535bc0dd3f9ed", func := "gusset/gussetlaw03.PathJoins", spec := "pathJoins", inPlace := ["internal/bytealg.IndexByteString", "internal/bytealg.IndexString"], named := ["internal/bytealg.MaxLen"], apart := false, narrowed := true }
def PathJoinsUptoSaid : Prop := pathJoinsUptoRow.holds Try.pinned (OpenSpec.upto pathJoinsSpec)

/-- 'gussetlaw03.PathProbes', WHERE WHAT IT READS IS OF BULK AT MOST 1048576: true; the input reads as it did. -/
def pathProbesUptoRow : OpenClaim := { program := "ytlogohcfahmilaa", sum := "cac0987212bf1554ea54b36dc7f6bb7c360255ed4c4e48d341b535bc0dd3f9ed", func := "gusset/gussetlaw03.PathProbes", spec := "pathProbes", inPlace := ["internal/bytealg.IndexByteString", "internal/bytealg.IndexString"], named := ["internal/bytealg.MaxLen"], apart := false, narrowed := true }
def PathProbesUptoSaid : Prop := pathProbesUptoRow.holds Try.pinned (OpenSpec.upto pathProbesSpec)

/-- 'gussetlaw03.PathSettles', WHERE WHAT IT READS IS OF BULK AT MOST 1048576: true; the input reads as it did. -/
def pathSettlesUptoRow : OpenClaim := { program := "ytlogohcfahmilaa", sum := "cac0987212bf1554ea54b36dc7f6bb7c360255ed4c4e48d341b535bc0dd3f9ed", func := "gusset/gussetlaw03.PathSettles", spec := "pathSettles", inPlace := ["internal/bytealg.IndexByteString", "internal/bytealg.IndexString"], named := ["internal/bytealg.MaxLen"], apart := false, narrowed := true }
def PathSettlesUptoSaid : Prop := pathSettlesUptoRow.holds Try.pinned (OpenSpec.upto pathSettlesSpec)

/-- 'gussetlaw03.PathUp', WHERE WHAT IT READS IS OF BULK AT MOST 1048576: true; the input reads as it did. -/
def pathUpUptoRow : OpenClaim := { program := "ytlogohcfahmilaa", sum := "cac0987212bf1554ea54b36dc7f6bb7c360255ed4c4e48d341b535bc0dd3f9ed", func := "gusset/gussetlaw03.PathUp", spec := "pathUp", inPlace := ["internal/bytealg.IndexByteString", "internal/bytealg.IndexString"], named := ["internal/bytealg.MaxLen"], apart := false, narrowed := true }
def PathUpUptoSaid : Prop := pathUpUptoRow.holds Try.pinned (OpenSpec.upto pathUpSpec)

end Rows
end Go.Proofs.Ytlogohcfahmilaa
