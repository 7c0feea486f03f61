/- The contracts of the document's hex and Quote. -/
import Derived.Test.YtaiefheejgfefabDoorRefSlice
import Derived.Test.YtaiefheejgfefabDoorPlainA
namespace Go.Proofs.YtaiefheejgfefabDoor
open Go.RowKit

theorem hex_cut (u : Nat) (h : u < 16) : (ByteArray.mk #[48, 49, 50, 51, 52, 53, 54, 55, 56, 57, 97, 98, 99, 100, 101, 102]).extract u (u + 1) = ⟨#[hexc u]⟩ := by
  have hall : ∀ v : Fin 16, (ByteArray.mk #[48, 49, 50, 51, 52, 53, 54, 55, 56, 57, 97, 98, 99, 100, 101, 102]).extract v.val (v.val + 1) = ⟨#[hexc v.val]⟩ := by decide +kernel
  exact hall ⟨u, h⟩

theorem piece_ascii (x : Nat × List UInt8) (c : Nat) (hc : c < 128) (hd : decL x.2 = (x.1, x.2.length)) (he : strayP x = false → Lib.encodeRune (x.1 : Int) = x.2) : x.2 = [UInt8.ofNat c] ↔ x.1 = c := by
  constructor
  · intro h
    rw [h] at hd
    have e : decL [UInt8.ofNat c] = (c, 1) := by
      have : atL [UInt8.ofNat c] 0 = c := by simp [atL]; omega
      rw [decL, this, if_pos hc]
    rw [e] at hd
    exact (Prod.mk.inj hd).1.symm
  · intro h
    have hs : strayP x = false := by
      unfold strayP
      have : (x.1 == 65533) = false := by simp; omega
      rw [this]; rfl
    rw [← he hs, h, Lib.encodeRune, Lib.encodeRuneZ_one (by omega) (by omega)]
    simp

theorem quoteP_le (x : Nat × List UInt8) : (quoteP x).length ≤ 6 + x.2.length := by
  have h1 := hexL_length (atL x.2 0)
  have h2 := hexL_length x.1
  unfold quoteP
  repeat' split
  all_goals simp
  all_goals omega
theorem flat_le (xs : Rns) : (xs.flatMap quoteP).length ≤ 6 * xs.length + (bytesOf xs).length := by
  induction xs with
  | nil => simp [bytesOf]
  | cons x xs ih =>
    have := quoteP_le x
    rw [List.flatMap_cons, List.length_append, bytesOf_cons, List.length_append, List.length_cons]
    omega

end Go.Proofs.YtaiefheejgfefabDoor
