/- Own text. Tokens of a source, as the document's Lex gives them, for package parse. -/
import Derived.Test.YtmfgcaffdkakhaaQ3
import Derived.Test.YtmfgcaffdkakhaaM4
import Derived.Test.YtmfgcaffdkakhaaXX
namespace Go.Proofs.Ytmfgcaffdkakhaa
open Go.RowKit
set_option linter.unusedVariables false
set_option linter.unusedSimpArgs false

def tkT (x : Tk × Nat) : Tok := ⟨x.1.1, ⟨x.1.2.1.toArray⟩, x.1.2.2, (x.2 : Int)⟩
/-- the tokens of a source; none, if it cannot be read. -/
def srcT (s : List UInt8) : List Tok := match lexL 0 s true with
  | .ok ts => ts.map tkT
  | .error _ => []
theorem rowT_get : ∀ (ts : List (Tk × Int)) (i : Nat) (h : i < ts.length), (rowT ts)[i * 4]? = some (.int .i64 ts[i].1.1) ∧ (rowT ts)[i * 4 + 1]? = some (.string ⟨ts[i].1.2.1.toArray⟩) ∧ (rowT ts)[i * 4 + 2]? = some (.int .i64 ts[i].1.2.2) ∧ (rowT ts)[i * 4 + 3]? = some (.int .i64 ts[i].2)
  | x :: F, 0, _ => by simp [rowT, tokCells]
  | x :: F, i + 1, h => by
    have := rowT_get F i (by simpa using h)
    have e : rowT (x :: F) = .int .i64 x.1.1 :: .string ⟨x.1.2.1.toArray⟩ :: .int .i64 x.1.2.2 :: .int .i64 x.2 :: rowT F := rfl
    rw [e, show (i + 1) * 4 = i * 4 + 1 + 1 + 1 + 1 by omega]
    simpa using this
theorem tkv_of {w : World} {base : Nat} {v : Value} {ts : List (Tk × Nat)} (h : ToksAt w base v (ints ts)) (hl : ts.length ≤ 4194304) (ht : ∀ x ∈ ts, x.1.2.1.length ≤ 4194304) : TkV w v (ts.map tkT) := by
  refine ⟨?_, by simpa using hl, fun x hx => ?_⟩
  · rcases h.2 with ⟨rfl, h0⟩ | ⟨g, cap, cur, rfl, hb, hg, hn, hm, hcs, htk⟩
    · have : ts = [] := List.length_eq_zero_iff.1 (by simpa [ints] using h0)
      subst this
      exact ⟨none, 0, 0, 0, rfl, fun h => by simp at h, ⟨fun h => by simp at h, fun i h => by simp at h⟩, by simp⟩
    · rw [ints_length] at *
      refine ⟨some ⟨g, 0, none⟩, cap, g, 0, by simp, fun _ => rfl, ⟨fun _ => (Array.getElem?_eq_some_iff.1 hg).1, fun i hi => ?_⟩, by simpa using hn⟩
      have hi' : i < ts.length := by simpa using hi
      have hf := rowT_get (ints ts) i (by rw [ints_length]; exact hi')
      rw [← htk] at hf
      have g1 : ∀ j, j < ts.length * 4 → (cur.toList.take (ts.length * 4))[j]? = cur[j]? := fun j hj => by rw [List.getElem?_take_of_lt hj]; simp
      rw [g1 _ (by omega), g1 _ (by omega), g1 _ (by omega), g1 _ (by omega)] at hf
      have c : ∀ j, w.cell? ⟨g, j, none⟩ = cur[j]? := fun j => cell_of_row w g _ _ _ _ hg
      simp only [Nat.zero_add, List.getElem_map]
      have e : (ints ts)[i]'(by rw [ints_length]; exact hi') = (ts[i].1, (ts[i].2 : Int)) := by simp [ints]
      rw [e] at hf
      exact ⟨(c _).trans hf.1, (c _).trans hf.2.1, (c _).trans hf.2.2.1, (c _).trans hf.2.2.2⟩
  · obtain ⟨y, hy, rfl⟩ := List.mem_map.1 hx
    show (⟨y.1.2.1.toArray⟩ : ByteArray).size ≤ 4194304
    have := ht y hy
    show y.1.2.1.toArray.size ≤ 4194304
    simpa using this
set_option maxRecDepth 100000 in
set_option maxHeartbeats 4000000 in
theorem tokens_any (s : ByteArray) (w : World) (hs : s.size ≤ 4194304) (hB : ∀ ts, lexL 0 s.data.toList true = .ok ts → ts.length ≤ 4194304 ∧ ∀ x ∈ ts, x.1.2.1.length ≤ 4194304) :
    Calls Try.prog 7 #[.string s] w fun e w' => (∃ v, e = .returned v ∧ TkV w' v (srcT s.data.toList)) ∧ Below w.heap.size w w' := by
  have C := lex_ref s true w (by omega)
  unfold srcT
  cases hr : lexL 0 s.data.toList true with
  | error x =>
    rw [hr] at C
    unfold lexRes at C
    go_enter Try.func7, Try.ntmps7
    go_wp2_with (go_at_call 14; refine C.mono ?_; rintro e W1 ⟨rfl, b1⟩)
    go_ret
    exact ⟨⟨_, rfl, ⟨none, 0, 0, 0, rfl, fun h => by simp at h, ⟨fun h => by simp at h, fun i h => by simp at h⟩, by simp⟩, by simp, fun x hx => by cases hx⟩, b1⟩
  | ok ts =>
    rw [hr] at C
    unfold lexRes at C
    obtain ⟨h1, h2⟩ := hB ts hr
    go_enter Try.func7, Try.ntmps7
    go_wp2_with (go_at_call 14; refine C.mono ?_; rintro e W1 ⟨⟨v, rfl, t1⟩, b1⟩)
    go_ret
    exact ⟨⟨_, rfl, tkv_of t1 h1 h2⟩, b1⟩
end Go.Proofs.Ytmfgcaffdkakhaa
