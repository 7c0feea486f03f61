/- Own text. The contract of Quote of package runes: a text in quotes,of every text that is not too long. -/
import Derived.Test.YthfkfbcopinmiaaGreatDoorGj22
import Derived.Lib.OthersKept
import Derived.BigCall
namespace Go.Proofs.YthfkfbcopinmiaaGreatDoor
open Go.RowKit
theorem run_next_dec_at {P : Program} (w : World) (k : Nat) (s : ByteArray) (pos : Nat) (ty : TypeId) (hk : w.heap[k]? = some (.stringIter s pos)) (h : pos < s.size) :
 (Instr.next (.pointer (some ⟨k,0,none⟩)) true ty).run P w =
  .ok (.tuple #[.bool true,.int .i64 pos,.int .i32 (decL (s.data.toList.drop pos)).1]) (w.iterAt k s (pos + (decL (s.data.toList.drop pos)).2)):=by
 rw [← decode_eq]
 exact Lib.run_next_any_at w k s pos ty hk h
end Go.Proofs.YthfkfbcopinmiaaGreatDoor
