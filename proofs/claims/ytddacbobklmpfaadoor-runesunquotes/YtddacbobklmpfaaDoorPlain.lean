/- Plain mathematics of texts as runes: a text of bytes cut into runes, and bytes that belong to none. -/
import Derived.Lib.RuneCount
import Derived.Lib.Strings
namespace Go.Proofs.YtddacbobklmpfaaDoor

def atL (l : List UInt8) (k : Nat) : Nat := (l.getD k 0).toNat
def contL (l : List UInt8) (k : Nat) : Bool := decide (k < l.length) && (atL l k / 64 == 2)
/-- The rune with which a text begins, and how many bytes it has; 65533 and 1: a byte that belongs to none. -/
def decL (l : List UInt8) : Nat × Nat :=
  if atL l 0 < 128 then (atL l 0, 1)
  else if atL l 0 / 32 == 6 && contL l 1 then
    if atL l 0 % 32 * 64 + atL l 1 % 64 ≥ 128 then (atL l 0 % 32 * 64 + atL l 1 % 64, 2) else (65533, 1)
  else if atL l 0 / 16 == 14 && contL l 1 && contL l 2 then
    if atL l 0 % 16 * 4096 + atL l 1 % 64 * 64 + atL l 2 % 64 ≥ 2048 && Utf8.valid ((atL l 0 % 16 * 4096 + atL l 1 % 64 * 64 + atL l 2 % 64 : Nat) : Int) then (atL l 0 % 16 * 4096 + atL l 1 % 64 * 64 + atL l 2 % 64, 3) else (65533, 1)
  else if atL l 0 / 8 == 30 && contL l 1 && contL l 2 && contL l 3 then
    if atL l 0 % 8 * 262144 + atL l 1 % 64 * 4096 + atL l 2 % 64 * 64 + atL l 3 % 64 ≥ 65536 && Utf8.valid ((atL l 0 % 8 * 262144 + atL l 1 % 64 * 4096 + atL l 2 % 64 * 64 + atL l 3 % 64 : Nat) : Int) then (atL l 0 % 8 * 262144 + atL l 1 % 64 * 4096 + atL l 2 % 64 * 64 + atL l 3 % 64, 4) else (65533, 1)
  else (65533, 1)

theorem get_drop (s : ByteArray) (i k : Nat) : (s.get! (i + k)).toNat = atL (s.data.toList.drop i) k := by
  unfold atL
  congr 1
  rw [List.getD_eq_getElem?_getD, List.getElem?_drop, Array.getElem?_toList]
  show s.data[i + k]! = _
  rw [getElem!_def]
  cases s.data[i + k]? <;> rfl

theorem decode_eq (s : ByteArray) (i : Nat) : Utf8.decode s i = decL (s.data.toList.drop i) := by
  have hc : ∀ k, decide (i + k < s.size) = decide (k < (s.data.toList.drop i).length) := by
    intro k
    simp only [List.length_drop, Array.length_toList]
    have e : s.size = s.data.size := rfl
    rw [e, decide_eq_decide]
    omega
  simp only [Utf8.decode, decL, contL, get_drop, hc, Utf8.runeError]
  rfl

theorem atL_lt (l : List UInt8) (k : Nat) : atL l k < 256 := (l.getD k 0).toNat_lt

theorem decL_width (l : List UInt8) : 1 ≤ (decL l).2 ∧ (decL l).2 ≤ 4 := by
  unfold decL
  repeat' split
  all_goals simp

theorem decL_le (l : List UInt8) (h : l ≠ []) : (decL l).2 ≤ l.length := by
  have h0 : 1 ≤ l.length := by cases l <;> simp_all
  unfold decL contL
  repeat' split
  all_goals simp_all
  all_goals omega

theorem decL_max (l : List UInt8) : (decL l).1 ≤ 1114111 := by
  have h0 := atL_lt l 0
  unfold decL
  repeat' split
  all_goals simp_all [Utf8.valid]
  all_goals omega

/-- A text cut into runes, each with its bytes. -/
def scanF : Nat → List UInt8 → List (Nat × List UInt8)
  | 0, _ => []
  | f + 1, l => if l = [] then [] else ((decL l).1, l.take (decL l).2) :: scanF f (l.drop (decL l).2)
def scan (l : List UInt8) : List (Nat × List UInt8) := scanF l.length l

theorem scanF_more (l : List UInt8) : ∀ f g, l.length ≤ f → l.length ≤ g → scanF f l = scanF g l := by
  intro f
  induction f generalizing l with
  | zero => intro g hf _; cases l <;> cases g <;> simp_all [scanF]
  | succ f ih =>
    intro g hf hg
    by_cases hl : l = []
    · subst hl; cases g <;> simp [scanF]
    · have hw := decL_width l
      have : 1 ≤ l.length := by cases l <;> simp_all
      cases g with
      | zero => omega
      | succ g =>
        simp only [scanF, if_neg hl]
        rw [ih (l.drop (decL l).2) g (by simp; omega) (by simp; omega)]

theorem scan_nil : scan [] = [] := rfl
theorem scan_cons (l : List UInt8) (h : l ≠ []) : scan l = ((decL l).1, l.take (decL l).2) :: scan (l.drop (decL l).2) := by
  have hw := decL_width l
  have hl : 1 ≤ l.length := by cases l <;> simp_all
  unfold scan
  obtain ⟨n, hn⟩ : ∃ n, l.length = n + 1 := ⟨l.length - 1, by omega⟩
  rw [hn]
  simp only [scanF, if_neg h]
  rw [scanF_more _ n _ (by simp; omega) (Nat.le_refl _)]

/-- The byte at hand belongs to no rune. -/
def strayL (l : List UInt8) : Bool := (decL l).1 == 65533 && (decL l).2 == 1

def strayP (x : Nat × List UInt8) : Bool := x.1 == 65533 && x.2.length == 1
theorem strayL_eq (l : List UInt8) (h : l ≠ []) : strayL l = strayP ((decL l).1, l.take (decL l).2) := by
  have := decL_le l h
  simp [strayL, strayP, Nat.min_eq_left this]
def validL (l : List UInt8) : Bool := (scan l).all fun x => !strayP x
theorem validL_nil : validL [] = true := rfl
theorem validL_stray (l : List UInt8) (h : l ≠ []) (hs : strayL l = true) : validL l = false := by
  rw [validL, scan_cons l h, List.all_cons, ← strayL_eq l h, hs]; rfl
theorem validL_rune (l : List UInt8) (h : l ≠ []) (hs : strayL l = false) : validL l = validL (l.drop (decL l).2) := by
  rw [validL, scan_cons l h, List.all_cons, ← strayL_eq l h, hs]; rfl

theorem prefix_bytes (l : List UInt8) : Lib.hasPrefix l [239, 191, 189] = (decide (2 < l.length) && (atL l 0 == 239) && (atL l 1 == 191) && (atL l 2 == 189)) := by
  unfold Lib.hasPrefix atL
  match l with
  | [] => rfl
  | [a] => simp [List.isPrefixOf]
  | [a, b] => simp [List.isPrefixOf]
  | a :: b :: c :: r =>
    rw [Bool.eq_iff_iff]
    simp [List.isPrefixOf]
    constructor
    · rintro ⟨rfl, rfl, rfl⟩
      simp
    · rintro ⟨⟨h0, h1⟩, h2⟩
      exact ⟨(UInt8.toNat_inj.1 (by rw [h0]; rfl)), (UInt8.toNat_inj.1 (by rw [h1]; rfl)), (UInt8.toNat_inj.1 (by rw [h2]; rfl))⟩

theorem prefix_stray (l : List UInt8) (h : (decL l).1 = 65533) : (Lib.hasPrefix l [239, 191, 189]) = !((decL l).2 == 1) := by
  have hb := atL_lt l 0
  have hb1 := atL_lt l 1
  have hb2 := atL_lt l 2
  rw [prefix_bytes, Bool.eq_iff_iff]
  revert h
  unfold decL contL
  repeat' split
  all_goals simp_all [Utf8.valid]
  all_goals omega
end Go.Proofs.YtddacbobklmpfaaDoor
