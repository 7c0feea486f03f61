/- Own text. The document's text of a token. The document's text of a token, by its kind. -/
import Derived.Test.YtaiefheejgfefabDoorX9
import Derived.Test.YtaiefheejgfefabDoorRefQuote
namespace Go.Proofs.YtaiefheejgfefabDoor
open Go.RowKit
set_option linter.unusedVariables false

theorem digitsF_more : ∀ (f g n : Nat), n < f → n < g → digitsF f n = digitsF g n
  | f + 1, g + 1, n, hf, hg => by
    unfold digitsF
    split
    · rw [digitsF_more f g (n / 10) (by omega) (by omega)]
    · rfl
theorem digitsL_eq (n : Nat) : digitsL n = if 9 < n then digitsL (n / 10) ++ [UInt8.ofNat (48 + n % 10)] else [UInt8.ofNat (48 + n % 10)] := by
  unfold digitsL
  conv => lhs; unfold digitsF
  split
  · rw [digitsF_more n (n / 10 + 1) (n / 10) (by omega) (by omega)]
  · rfl
theorem digitsL_len : ∀ (k n : Nat), n < 10 ^ (k + 1) → (digitsL n).length ≤ k + 1
  | 0, n, h => by rw [digitsL_eq, if_neg (by omega)]; simp
  | k + 1, n, h => by
    rw [digitsL_eq]
    split
    · have := digitsL_len k (n / 10) (by rw [Nat.pow_succ] at h; omega)
      simp
      omega
    · simp
theorem digitsL_small (n : Nat) (h : n ≤ 9223372036854775807) : (digitsL n).length ≤ 19 := digitsL_len 18 n (by omega)

/-- the text that a token would have. -/
def rawB (t : Tk) : ByteArray := if t.1 = 3 then ⟨(digitsL t.2.2.toNat).toArray⟩ else if t.1 = 4 then ⟨(quoteL t.2.1).toArray⟩ else ⟨t.2.1.toArray⟩
theorem rawB_list (t : Tk) (h : t.1 = 3 → 0 ≤ t.2.2) : rawL t = some (rawB t).data.toList := by
  unfold rawL rawB
  split
  · rename_i h3
    rw [if_neg (by have := h h3; omega)]
  · split
    · rfl
    · rfl
theorem eq_texts (a b : Bs) : ((⟨a.toArray⟩ : ByteArray).toList == (⟨b.toArray⟩ : ByteArray).toList) = (a == b) := by rw [Lib.toList_data, Lib.toList_data]

theorem rowForm {w : World} {base : Nat} {e : TypeId} {size : Nat} {v : Value} {n : Nat} {xs : List Value} (h : w.ownsRow base e size v n xs) : ∃ A c, v = .slice A n c := by
  rcases h.2 with ⟨rfl, rfl⟩ | ⟨g, cap, cur, rfl, _⟩
  · exact ⟨_, _, rfl⟩
  · exact ⟨_, _, rfl⟩
theorem rowSome {w : World} {base : Nat} {e : TypeId} {size : Nat} {v : Value} {n : Nat} {xs : List Value} (h : w.ownsRow base e size v n xs) (hn : 0 < n) : ∃ g c, v = .slice (some ⟨g, 0, none⟩) n c ∧ base ≤ g ∧ n ≤ c := by
  rcases h.2 with ⟨rfl, rfl⟩ | ⟨g, cap, cur, rfl, h1, h2, h3, _⟩
  · omega
  · exact ⟨_, _, rfl, h1, h3⟩
theorem lexF_err : ∀ (f a : Nat) (l : Bs) (sc : Bool) (c : Nat × Nat), lexF f a l sc = .error c → c.2 = 40 ∨ c.2 = 41
  | 0, a, l, sc, c, h => by cases h
  | f + 1, a, l, sc, c, h => by
    unfold lexF at h
    split at h
    · cases h; exact .inl rfl
    · split at h
      · cases h
      · cases hx : nextL (l.drop (pastL l).1) sc with
        | error e =>
          rw [hx] at h
          cases h
          exact next_err hx
        | ok x =>
          rw [hx] at h
          simp only at h
          cases hy : lexF f (a + (pastL l).1 + x.2) (l.drop ((pastL l).1 + x.2)) sc with
          | error d =>
            rw [hy] at h
            cases h
            exact lexF_err f _ _ sc _ hy
          | ok ts => rw [hy] at h; cases h
theorem isTk_one {s : Bs} {x : Tk × Nat} (h : lexL 0 s true = .ok [x]) (t : Tk) : isTk s t = (x.1 == t) := by unfold isTk; rw [h]
theorem isTk_err {s : Bs} {c : Nat × Nat} (h : lexL 0 s true = .error c) (t : Tk) : isTk s t = false := by unfold isTk; rw [h]
theorem isTk_not {s : Bs} {ts : List (Tk × Nat)} (h : lexL 0 s true = .ok ts) (hn : ts.length ≠ 1) (t : Tk) : isTk s t = false := by
  unfold isTk
  rw [h]
  match ts, hn with
  | [], _ => rfl
  | [x], hn => exact absurd rfl hn
  | x :: y :: r, _ => rfl
theorem tk_eq (a b c : Int) (x y : Bs) (d : Int) : (((a, x, c) : Tk) == (b, y, d)) = ((a == b) && ((x == y) && (c == d))) := rfl
theorem tok_cells {w : World} {base g c : Nat} {x : Tk × Nat} (h : ToksAt w base (.slice (some ⟨g, 0, none⟩) 1 c) (ints [x])) :
    w.cell? ⟨g, 0, none⟩ = some (.int .i64 x.1.1) ∧ w.cell? ⟨g, 1, none⟩ = some (.string ⟨x.1.2.1.toArray⟩) ∧ w.cell? ⟨g, 2, none⟩ = some (.int .i64 x.1.2.2) := by
  have h' : w.ownsRow base 32 4 (.slice (some ⟨g, 0, none⟩) 1 c) 1 (tokCells (x.1, (x.2 : Int))) := h
  refine ⟨?_, ?_, ?_⟩
  · rw [h'.cellAt 0 (by omega)]; rfl
  · rw [h'.cellAt 1 (by omega)]; rfl
  · rw [h'.cellAt 2 (by omega)]; rfl

theorem heap_at2 {W W2 : World} {n : Nat} {o : Obj} (hb : Below W.heap.size W W2) (h : W.heap[n]? = some o) : W2.heap[n]? = some o :=
  (hb.block n (Array.getElem?_eq_some_iff.1 h).1).trans h

theorem quoteL_len (x : Bs) : (quoteL x).length ≤ 7 * x.length + 2 := by
  have h1 := flat_le (scan x)
  have h2 := scan_length x
  have h3 : (bytesOf (scan x)).length = x.length := by rw [scan_bytes]
  unfold quoteL
  simp only [List.length_cons, List.length_append, List.length_nil]
  omega

end Go.Proofs.YtaiefheejgfefabDoor
namespace Go.Proofs.YtaiefheejgfefabDoor
open Go.RowKit
set_option linter.unusedVariables false

end Go.Proofs.YtaiefheejgfefabDoor
