/- Own text. Forms of kinds, and where a kind may stand: package tree. The rules of kinds: package tree. (Its rows are written by a program of our own from the rules' text.) Where a kind may stand: package tree. Plain mathematics of texts as runes: a text of bytes cut into runes, and bytes that belong to none. Plain mathematics of texts in quotes: what stands for each rune of a text. Plain mathematics of the runes between two places of a text. A rune cut out of a text is that rune by itself. -/
import Derived.Test.YtpnljjcdlkjfhaaGreatDoorRv02
import Derived.Lib.RuneCount
import Derived.Lib.Strings
import Derived.Lib.RuneBytes
namespace Go.Proofs.YtpnljjcdlkjfhaaGreatDoor
open Go.RowKit
set_option linter.unusedVariables false

/-- the form of the whole trees of a kind. -/
def formK (k : Int) : Int :=
  if k = 1 ∨ k = 2 ∨ k = 3 ∨ k = 4 ∨ k = 5 ∨ k = 6 ∨ k = 7 ∨ k = 8 ∨ k = 9 ∨ k = 11 ∨ k = 15 ∨ k = 16 ∨ k = 17 ∨ k = 18 ∨ k = 19 ∨ k = 20 ∨ k = 21 ∨ k = 22 then 1
  else if k = 30 ∨ k = 31 ∨ k = 32 ∨ k = 33 ∨ k = 35 then 2
  else if k = 40 ∨ k = 41 ∨ k = 47 ∨ k = 48 ∨ k = 49 ∨ k = 50 ∨ k = 51 ∨ k = 52 then 3
  else if k = 42 ∨ k = 46 ∨ k = 60 ∨ k = 62 ∨ k = 63 ∨ k = 64 then 4
  else if k = 68 then 5
  else if k = 69 then 6
  else 0

set_option maxHeartbeats 8000000 in
theorem formOf_any (k : Int) (w : World) : Calls Tryz.prog 48 #[.int .i64 k] w fun e w' => e = .returned (.int .i64 (formK k)) ∧ w' = w := by
  go_enter Tryz.func48, Tryz.ntmps48
  go_wp2
  all_goals go_ret
  all_goals exact ⟨by simp_all [formK], rfl⟩
end Go.Proofs.YtpnljjcdlkjfhaaGreatDoor
namespace Go.Proofs.YtpnljjcdlkjfhaaGreatDoor
open Go.RowKit
set_option linter.unusedVariables false

/-- where a kind may stand. -/
def standsK (p k : Int) : Bool :=
  if p = 101 then (formK k == 1)
  else if p = 102 then (formK k == 1) || (k == 14)
  else if p = 103 then (k == 6) || (k == 21) || (k == 22)
  else if p = 104 then (formK k == 2)
  else if p = 105 then (formK k == 2) && (k != 32)
  else if p = 106 then (formK k == 2) || (k == 14)
  else if p = 107 then (formK k == 3)
  else if p = 108 then (k == 52) || (k == 14)
  else if p = 109 then (formK k == 3) || (formK k == 4)
  else if p = 110 then (formK k == 3) || (k == 42) || (k == 66)
  else if p = 111 then (k == 40) || (k == 41) || (k == 42) || (k == 46)
  else if p = 112 then (formK k == 1) || (k == 41) || (k == 42)
  else if p = 113 then (k == 43) || (k == 44) || (k == 45)
  else if p = 114 then (k == 14)
  else (p == k)

/-- what a tree of one kind has. -/
structure Rul where
  t : Int
  m : Int
  ks : List Int
  r : Int

def exprR (k : Int) : Rul :=
  if k = 1 then ⟨0, 9007199254740991, [], 0⟩ else
  if k = 2 then ⟨6, 0, [], 0⟩ else
  if k = 3 then ⟨0, 1, [], 0⟩ else
  if k = 6 then ⟨1, 0, [], 0⟩ else
  if k = 8 then ⟨0, 0, [], 101⟩ else
  if k = 9 then ⟨0, 0, [], 10⟩ else
  if k = 11 then ⟨0, 0, [12, 106, 52], 0⟩ else
  if k = 15 then ⟨7, 0, [101], 0⟩ else
  if k = 16 then ⟨8, 0, [101, 101], 0⟩ else
  if k = 17 then ⟨0, 0, [101, 101, 101], 0⟩ else
  if k = 18 then ⟨0, 0, [103, 101], 0⟩ else
  if k = 19 then ⟨0, 0, [101], 101⟩ else
  if k = 20 then ⟨1, 0, [], 101⟩ else
  if k = 21 then ⟨2, 0, [101], 0⟩ else
  if k = 22 then ⟨0, 0, [101, 101], 0⟩ else
  ⟨0, 0, [], 0⟩
def typeR (k : Int) : Rul :=
  if k = 31 then ⟨0, 0, [104], 0⟩ else
  if k = 32 then ⟨0, 0, [105, 105], 105⟩ else
  if k = 33 then ⟨0, 0, [], 34⟩ else
  if k = 35 then ⟨0, 0, [12, 104], 0⟩ else
  ⟨5, 0, [], 0⟩
def stmtR (k : Int) : Rul :=
  if k = 40 then ⟨1, 1, [106, 101], 0⟩ else
  if k = 41 then ⟨1, 0, [12, 106, 52], 0⟩ else
  if k = 48 then ⟨0, 0, [101, 52, 108], 0⟩ else
  if k = 49 then ⟨0, 0, [101, 52], 0⟩ else
  if k = 50 then ⟨0, 0, [102], 0⟩ else
  if k = 52 then ⟨0, 0, [], 107⟩ else
  ⟨0, 0, [101], 0⟩
def itemR (k : Int) : Rul :=
  if k = 42 then ⟨1, 0, [], 113⟩ else
  if k = 46 then ⟨1, 0, [104], 0⟩ else
  if k = 60 then ⟨6, 1, [], 61⟩ else
  if k = 62 then ⟨0, 0, [111], 0⟩ else
  if k = 63 then ⟨0, 0, [112], 0⟩ else
  ⟨6, 1, [65], 65⟩
def partR (k : Int) : Option Rul :=
  if k = 14 then some ⟨0, 0, [], 0⟩ else
  if k = 10 then some ⟨2, 0, [101], 0⟩ else
  if k = 12 then some ⟨0, 0, [], 13⟩ else
  if k = 13 then some ⟨1, 0, [106], 0⟩ else
  if k = 34 then some ⟨2, 0, [104], 0⟩ else
  if k = 43 then some ⟨3, 0, [106, 101], 0⟩ else
  if k = 44 then some ⟨0, 0, [12, 52], 0⟩ else
  if k = 45 then some ⟨3, 0, [12, 106, 52], 0⟩ else
  if k = 61 then some ⟨4, 0, [6], 0⟩ else
  if k = 65 then some ⟨4, 0, [114], 0⟩ else
  if k = 66 then some ⟨1, 0, [], 67⟩ else
  if k = 67 then some ⟨2, 0, [6], 0⟩ else
  none
def ruleK (k : Int) : Option Rul :=
  if formK k = 1 then some (exprR k) else if formK k = 2 then some (typeR k) else if formK k = 3 then some (stmtR k) else if formK k = 4 then some (itemR k)
  else if formK k = 5 then some ⟨0, 0, [], 109⟩ else if formK k = 6 then some ⟨0, 0, [], 110⟩ else partR k

/-- a list of parts in memory. -/
def PAt (w : World) (v : Value) (ks : List Int) : Prop := (ks = [] ∧ v = .slice none 0 0) ∨ ∃ bl t, v = .slice (some ⟨bl, 0, none⟩) ks.length ks.length ∧ w.heap[bl]? = some (.cells (ks.map (Value.int .i64)).toArray t (0, 0))
theorem PAt.bel {w w' : World} {v : Value} {ks : List Int} (h : PAt w v ks) (b : Below w.heap.size w w') : PAt w' v ks := by
  rcases h with h | ⟨bl, t, h1, h2⟩
  · exact .inl h
  · exact .inr ⟨bl, t, h1, (b.block bl (Array.getElem?_eq_some_iff.1 h2).1).trans h2⟩
theorem PAt.sl {w : World} {v : Value} {ks : List Int} (h : PAt w v ks) : ∃ a, v = .slice a ks.length ks.length := by
  rcases h with ⟨rfl, rfl⟩ | ⟨bl, t, h1, _⟩
  · exact ⟨none, rfl⟩
  · exact ⟨_, h1⟩
def Rul.v (r : Rul) (v : Value) : Value := .agg #[.int .i64 r.t, .int .i64 r.m, v, .int .i64 r.r]
theorem res_rule {fn : Func} {p : Nat} (h : fn.results = #[.cell p 135]) {W : World} {n : Nat} {a b c d : Value} {t : TypeId} {tmps : Array Value} (hb : W.heap[n]? = some (.cells #[a, b, c, d] t (0, 0))) (ht : tmps[p]?.getD undef = .pointer (some ⟨n, 0, none⟩)) :
    (results fn tmps).run Tryz.prog W = .ok (.agg #[a, b, c, d]) W := by
  obtain ⟨⟨c0, c1, c2, c3⟩, _⟩ := box4 hb
  simp [results, h, go_sem, ht, c0, c1, c2, c3]
theorem res_rule2 {fn : Func} {p q : Nat} (h : fn.results = #[.cell p 135, .tmp q]) {W : World} {n : Nat} {a b c d : Value} {t : TypeId} {tmps : Array Value} (hb : W.heap[n]? = some (.cells #[a, b, c, d] t (0, 0))) (ht : tmps[p]?.getD undef = .pointer (some ⟨n, 0, none⟩)) :
    (results fn tmps).run Tryz.prog W = .ok (.tuple #[.agg #[a, b, c, d], tmps.getD q undef]) W := by
  obtain ⟨⟨c0, c1, c2, c3⟩, _⟩ := box4 hb
  simp [results, h, go_sem, ht, c0, c1, c2, c3]
/-- what a rule's function answers. -/
def RulAns (w : World) (r : Rul) (e : Ending) (w' : World) : Prop := ∃ v, e = .returned (r.v v) ∧ PAt w' v r.ks ∧ Below w.heap.size w w'
def RulAns2 (w : World) (o : Option Rul) (e : Ending) (w' : World) : Prop := ∃ (r : Rul) (b : Bool) (v : Value), e = .returned (.tuple #[r.v v, .bool b]) ∧ (b = true → o = some r) ∧ (b = false → o = none) ∧ PAt w' v r.ks ∧ Below w.heap.size w w'
theorem bel_aa (w : World) (o o' : Obj) : Below w.heap.size w ((w.alloc o).alloc o') := (bel_a w o).alloc (by simp) o'

end Go.Proofs.YtpnljjcdlkjfhaaGreatDoor
set_option linter.unusedVariables false
namespace Go.Proofs.YtpnljjcdlkjfhaaGreatDoor
open Go.RowKit
theorem ret_b {a b : Bool} (h : a = b) : Ending.returned (.bool a) = .returned (.bool b) := by rw [h]
set_option maxHeartbeats 8000000 in
theorem stands_any (p k : Int) (w : World) : Calls Tryz.prog 137 #[.int .i64 p, .int .i64 k] w fun e w' => e = .returned (.bool (standsK p k)) ∧ w' = w := by
  have hf := formOf_any k
  unfold standsK
  generalize formK k = f at *
  go_enter Tryz.func137, Tryz.ntmps137
  go_wp2_with (go_at_call 48; refine (hf _).mono ?_; rintro e w' ⟨rfl, rfl⟩)
  all_goals go_ret
  all_goals exact ⟨ret_b (by clear hf; simp_all), rfl⟩

end Go.Proofs.YtpnljjcdlkjfhaaGreatDoor
namespace Go.Proofs.YtpnljjcdlkjfhaaGreatDoor

def atL (l : List UInt8) (k : Nat) : Nat := (l.getD k 0).toNat
def contL (l : List UInt8) (k : Nat) : Bool := decide (k < l.length) && (atL l k / 64 == 2)
/-- The rune with which a text begins, and how many bytes it has; 65533 and 1: a byte that belongs to none. -/
def decL (l : List UInt8) : Nat × Nat :=
  if atL l 0 < 128 then (atL l 0, 1)
  else if atL l 0 / 32 == 6 && contL l 1 then
    if atL l 0 % 32 * 64 + atL l 1 % 64 ≥ 128 then (atL l 0 % 32 * 64 + atL l 1 % 64, 2) else (65533, 1)
  else if atL l 0 / 16 == 14 && contL l 1 && contL l 2 then
    if atL l 0 % 16 * 4096 + atL l 1 % 64 * 64 + atL l 2 % 64 ≥ 2048 && Utf8.valid ((atL l 0 % 16 * 4096 + atL l 1 % 64 * 64 + atL l 2 % 64 : Nat) : Int) then (atL l 0 % 16 * 4096 + atL l 1 % 64 * 64 + atL l 2 % 64, 3) else (65533, 1)
  else if atL l 0 / 8 == 30 && contL l 1 && contL l 2 && contL l 3 then
    if atL l 0 % 8 * 262144 + atL l 1 % 64 * 4096 + atL l 2 % 64 * 64 + atL l 3 % 64 ≥ 65536 && Utf8.valid ((atL l 0 % 8 * 262144 + atL l 1 % 64 * 4096 + atL l 2 % 64 * 64 + atL l 3 % 64 : Nat) : Int) then (atL l 0 % 8 * 262144 + atL l 1 % 64 * 4096 + atL l 2 % 64 * 64 + atL l 3 % 64, 4) else (65533, 1)
  else (65533, 1)

theorem get_drop (s : ByteArray) (i k : Nat) : (s.get! (i + k)).toNat = atL (s.data.toList.drop i) k := by
  unfold atL
  congr 1
  rw [List.getD_eq_getElem?_getD, List.getElem?_drop, Array.getElem?_toList]
  show s.data[i + k]! = _
  rw [getElem!_def]
  cases s.data[i + k]? <;> rfl

theorem decode_eq (s : ByteArray) (i : Nat) : Utf8.decode s i = decL (s.data.toList.drop i) := by
  have hc : ∀ k, decide (i + k < s.size) = decide (k < (s.data.toList.drop i).length) := by
    intro k
    simp only [List.length_drop, Array.length_toList]
    have e : s.size = s.data.size := rfl
    rw [e, decide_eq_decide]
    omega
  simp only [Utf8.decode, decL, contL, get_drop, hc, Utf8.runeError]
  rfl

theorem atL_lt (l : List UInt8) (k : Nat) : atL l k < 256 := (l.getD k 0).toNat_lt

theorem decL_width (l : List UInt8) : 1 ≤ (decL l).2 ∧ (decL l).2 ≤ 4 := by
  unfold decL
  repeat' split
  all_goals simp

theorem decL_le (l : List UInt8) (h : l ≠ []) : (decL l).2 ≤ l.length := by
  have h0 : 1 ≤ l.length := by cases l <;> simp_all
  unfold decL contL
  repeat' split
  all_goals simp_all
  all_goals omega

theorem decL_max (l : List UInt8) : (decL l).1 ≤ 1114111 := by
  have h0 := atL_lt l 0
  unfold decL
  repeat' split
  all_goals simp_all [Utf8.valid]
  all_goals omega

/-- A text cut into runes, each with its bytes. -/
def scanF : Nat → List UInt8 → List (Nat × List UInt8)
  | 0, _ => []
  | f + 1, l => if l = [] then [] else ((decL l).1, l.take (decL l).2) :: scanF f (l.drop (decL l).2)
def scan (l : List UInt8) : List (Nat × List UInt8) := scanF l.length l

theorem scanF_more (l : List UInt8) : ∀ f g, l.length ≤ f → l.length ≤ g → scanF f l = scanF g l := by
  intro f
  induction f generalizing l with
  | zero => intro g hf _; cases l <;> cases g <;> simp_all [scanF]
  | succ f ih =>
    intro g hf hg
    by_cases hl : l = []
    · subst hl; cases g <;> simp [scanF]
    · have hw := decL_width l
      have : 1 ≤ l.length := by cases l <;> simp_all
      cases g with
      | zero => omega
      | succ g =>
        simp only [scanF, if_neg hl]
        rw [ih (l.drop (decL l).2) g (by simp; omega) (by simp; omega)]

theorem scan_nil : scan [] = [] := rfl
theorem scan_cons (l : List UInt8) (h : l ≠ []) : scan l = ((decL l).1, l.take (decL l).2) :: scan (l.drop (decL l).2) := by
  have hw := decL_width l
  have hl : 1 ≤ l.length := by cases l <;> simp_all
  unfold scan
  obtain ⟨n, hn⟩ : ∃ n, l.length = n + 1 := ⟨l.length - 1, by omega⟩
  rw [hn]
  simp only [scanF, if_neg h]
  rw [scanF_more _ n _ (by simp; omega) (Nat.le_refl _)]

/-- The byte at hand belongs to no rune. -/
def strayL (l : List UInt8) : Bool := (decL l).1 == 65533 && (decL l).2 == 1

def strayP (x : Nat × List UInt8) : Bool := x.1 == 65533 && x.2.length == 1
theorem strayL_eq (l : List UInt8) (h : l ≠ []) : strayL l = strayP ((decL l).1, l.take (decL l).2) := by
  have := decL_le l h
  simp [strayL, strayP, Nat.min_eq_left this]
def validL (l : List UInt8) : Bool := (scan l).all fun x => !strayP x
theorem validL_nil : validL [] = true := rfl
theorem validL_stray (l : List UInt8) (h : l ≠ []) (hs : strayL l = true) : validL l = false := by
  rw [validL, scan_cons l h, List.all_cons, ← strayL_eq l h, hs]; rfl
theorem validL_rune (l : List UInt8) (h : l ≠ []) (hs : strayL l = false) : validL l = validL (l.drop (decL l).2) := by
  rw [validL, scan_cons l h, List.all_cons, ← strayL_eq l h, hs]; rfl

theorem prefix_bytes (l : List UInt8) : Lib.hasPrefix l [239, 191, 189] = (decide (2 < l.length) && (atL l 0 == 239) && (atL l 1 == 191) && (atL l 2 == 189)) := by
  unfold Lib.hasPrefix atL
  match l with
  | [] => rfl
  | [a] => simp [List.isPrefixOf]
  | [a, b] => simp [List.isPrefixOf]
  | a :: b :: c :: r =>
    rw [Bool.eq_iff_iff]
    simp [List.isPrefixOf]
    constructor
    · rintro ⟨rfl, rfl, rfl⟩
      simp
    · rintro ⟨⟨h0, h1⟩, h2⟩
      exact ⟨(UInt8.toNat_inj.1 (by rw [h0]; rfl)), (UInt8.toNat_inj.1 (by rw [h1]; rfl)), (UInt8.toNat_inj.1 (by rw [h2]; rfl))⟩

theorem prefix_stray (l : List UInt8) (h : (decL l).1 = 65533) : (Lib.hasPrefix l [239, 191, 189]) = !((decL l).2 == 1) := by
  have hb := atL_lt l 0
  have hb1 := atL_lt l 1
  have hb2 := atL_lt l 2
  rw [prefix_bytes, Bool.eq_iff_iff]
  revert h
  unfold decL contL
  repeat' split
  all_goals simp_all [Utf8.valid]
  all_goals omega
end Go.Proofs.YtpnljjcdlkjfhaaGreatDoor
namespace Go.Proofs.YtpnljjcdlkjfhaaGreatDoor

theorem take_getD (l : List UInt8) : ∀ w, w ≤ l.length → l.take w = (List.range w).map fun k => l.getD k 0 := by
  intro w
  induction w with
  | zero => intro _; simp
  | succ w ih =>
    intro h
    rw [List.take_succ_eq_append_getElem (by omega), ih (by omega), List.range_succ, List.map_append]
    simp [List.getD_eq_getElem?_getD, List.getElem?_eq_getElem (show w < l.length by omega)]

theorem u8_of (x : UInt8) (n : Int) (h : n = x.toNat) : n.toNat.toUInt8 = x := by
  apply UInt8.toNat_inj.1
  have := x.toNat_lt
  rw [h]
  simp

/-- A rune's bytes are those with which the text begins. -/
theorem enc_dec (l : List UInt8) (h : l ≠ []) (hs : strayL l = false) : Lib.encodeRune ((decL l).1 : Int) = l.take (decL l).2 := by
  have hle := decL_le l h
  rw [take_getD l _ hle]
  have a0 := atL_lt l 0
  have a1 := atL_lt l 1
  have a2 := atL_lt l 2
  have a3 := atL_lt l 3
  have key : Lib.encodeRuneZ ((decL l).1 : Int) = (List.range (decL l).2).map fun k => ((atL l k : Nat) : Int) := by
    clear hle
    revert hs
    unfold strayL
    unfold decL contL
    split
    · intro _
      rw [Lib.encodeRuneZ_one (by omega) (by omega)]
      rfl
    · split
      · rename_i h1 h2
        simp only [Bool.and_eq_true, beq_iff_eq, decide_eq_true_eq] at h2
        split
        · intro _
          rw [Lib.encodeRuneZ_two (by omega) (by omega)]
          simp [List.range_succ]
          omega
        · simp
      · split
        · rename_i h1 h2 h3
          simp only [Bool.and_eq_true, beq_iff_eq, decide_eq_true_eq] at h3
          split
          · rename_i h4
            simp only [Bool.and_eq_true, decide_eq_true_eq, Utf8.valid, Bool.or_eq_true] at h4
            intro _
            rw [Lib.encodeRuneZ_three (by omega)]
            simp [List.range_succ]
            omega
          · simp
        · split
          · rename_i h1 h2 h3 h4
            simp only [Bool.and_eq_true, beq_iff_eq, decide_eq_true_eq] at h4
            split
            · rename_i h5
              simp only [Bool.and_eq_true, decide_eq_true_eq, Utf8.valid, Bool.or_eq_true] at h5
              intro _
              rw [Lib.encodeRuneZ_four (by omega) (by omega)]
              simp [List.range_succ]
              omega
            · simp
          · simp
  rw [Lib.encodeRune, key, List.map_map]
  apply List.map_congr_left
  intro k _
  exact u8_of _ _ rfl

def hexc (u : Nat) : UInt8 := if u < 10 then UInt8.ofNat (48 + u) else UInt8.ofNat (87 + u)
/-- A number below 256 in hexadecimal digits. -/
def hexL (u : Nat) : List UInt8 := if u < 16 then [hexc u] else [hexc (u / 16), hexc (u % 16)]
theorem hexL_one (u : Nat) (h : u < 16) : hexL u = [hexc u] := by rw [hexL, if_pos h]
theorem hexL_two (u : Nat) (h : 16 ≤ u) : hexL u = [hexc (u / 16), hexc (u % 16)] := by rw [hexL, if_neg (by omega)]
theorem hexL_length (u : Nat) : (hexL u).length ≤ 2 := by unfold hexL; split <;> simp

/-- What stands for a rune, or for a byte that belongs to none, in a text in quotes. -/
def quoteP (x : Nat × List UInt8) : List UInt8 :=
  if strayP x then [92, 117, 123] ++ hexL (atL x.2 0) ++ [125]
  else if x.1 = 34 ∨ x.1 = 92 then 92 :: x.2
  else if x.1 = 10 then [92, 110]
  else if x.1 = 9 then [92, 116]
  else if x.1 < 32 ∨ x.1 = 127 then [92, 117, 123] ++ hexL x.1 ++ [125]
  else x.2
/-- A text in quotes. -/
def quoteL (l : List UInt8) : List UInt8 := 34 :: (scan l).flatMap quoteP ++ [34]

theorem quoteP_length (l : List UInt8) (h : l ≠ []) : (quoteP ((decL l).1, l.take (decL l).2)).length ≤ 6 * (decL l).2 := by
  have hle := decL_le l h
  have hw := decL_width l
  have hh := hexL_length
  have h1 := hh (atL (l.take (decL l).2) 0)
  have h2 := hh (decL l).1
  unfold quoteP
  repeat' split
  all_goals simp
  all_goals omega
end Go.Proofs.YtpnljjcdlkjfhaaGreatDoor
namespace Go.Proofs.YtpnljjcdlkjfhaaGreatDoor

abbrev Rns := List (Nat × List UInt8)
def bytesOf (xs : Rns) : List UInt8 := xs.flatMap (·.2)
theorem bytesOf_append (xs ys : Rns) : bytesOf (xs ++ ys) = bytesOf xs ++ bytesOf ys := by simp [bytesOf]
theorem bytesOf_cons (x : Nat × List UInt8) (ys : Rns) : bytesOf (x :: ys) = x.2 ++ bytesOf ys := by simp [bytesOf]

theorem scan_induct (P : List UInt8 → Prop) (h0 : P []) (h1 : ∀ l, l ≠ [] → P (l.drop (decL l).2) → P l) : ∀ l, P l := by
  intro l
  have : ∀ n, ∀ l : List UInt8, l.length ≤ n → P l := by
    intro n
    induction n with
    | zero => intro l hl; have : l = [] := List.eq_nil_of_length_eq_zero (by omega); subst this; exact h0
    | succ n ih =>
      intro l hl
      by_cases he : l = []
      · subst he; exact h0
      · have := (decL_width l).1
        exact h1 l he (ih _ (by rw [List.length_drop]; omega))
  exact this l.length l (Nat.le_refl _)

/-- All runes, one behind the other, are the text. -/
theorem scan_bytes (l : List UInt8) : bytesOf (scan l) = l := by
  refine scan_induct (fun l => bytesOf (scan l) = l) rfl ?_ l
  intro l hl ih
  rw [scan_cons l hl, bytesOf_cons, ih]
  exact List.take_append_drop _ _
/-- Each has a byte. -/
theorem scan_pos (l : List UInt8) : ∀ x ∈ scan l, x.2 ≠ [] := by
  refine scan_induct (fun l => ∀ x ∈ scan l, x.2 ≠ []) (fun x h => by cases h) ?_ l
  intro l hl ih x hx
  rw [scan_cons l hl] at hx
  rcases List.mem_cons.1 hx with rfl | hx
  · intro e
    have h1 := (decL_width l).1
    have h2 := decL_le l hl
    have := congrArg List.length e
    simp at this
    rcases this with h | h
    · omega
    · exact hl h
  · exact ih x hx
theorem scan_length (l : List UInt8) : (scan l).length ≤ l.length := by
  refine scan_induct (fun l => (scan l).length ≤ l.length) (Nat.le_refl _) ?_ l
  intro l hl ih
  have h1 := (decL_width l).1
  have h2 := decL_le l hl
  rw [scan_cons l hl, List.length_cons]
  rw [List.length_drop] at ih
  omega

/-- Where the k-th of the runes begins. -/
def offs (xs : Rns) (k : Nat) : Nat := (bytesOf (xs.take k)).length
theorem offs_zero (xs : Rns) : offs xs 0 = 0 := by simp [offs, bytesOf]
theorem offs_all (xs : Rns) (k : Nat) (h : xs.length ≤ k) : offs xs k = (bytesOf xs).length := by rw [offs, List.take_of_length_le h]
theorem offs_succ (xs : Rns) (k : Nat) (h : k < xs.length) : offs xs (k + 1) = offs xs k + (xs[k]).2.length := by
  rw [offs, List.take_succ_eq_append_getElem h, bytesOf_append, List.length_append, offs]
  simp [bytesOf]
theorem offs_mono (xs : Rns) (a b : Nat) (h : a ≤ b) : offs xs a ≤ offs xs b := by
  rw [offs, offs]
  have : xs.take a = (xs.take b).take a := by rw [List.take_take, Nat.min_eq_left h]
  rw [this]
  have e : bytesOf (xs.take b) = bytesOf ((xs.take b).take a) ++ bytesOf ((xs.take b).drop a) := by rw [← bytesOf_append, List.take_append_drop]
  rw [e, List.length_append]
  omega

/-- The runes from the place a up to the one ahead of b. -/
def part (xs : Rns) (a b : Nat) : List UInt8 := bytesOf ((xs.take b).drop a)
theorem part_bytes (xs : Rns) (a b : Nat) (h : a ≤ b) : ((bytesOf xs).take (offs xs b)).drop (offs xs a) = part xs a b := by
  have e1 : (bytesOf xs).take (offs xs b) = bytesOf (xs.take b) := by
    have : bytesOf xs = bytesOf (xs.take b) ++ bytesOf (xs.drop b) := by rw [← bytesOf_append, List.take_append_drop]
    rw [this, offs, List.take_left]
  have e2 : bytesOf (xs.take b) = bytesOf (xs.take a) ++ part xs a b := by
    have : xs.take a = (xs.take b).take a := by rw [List.take_take, Nat.min_eq_left h]
    rw [this, part, ← bytesOf_append, List.take_append_drop]
  rw [e1, e2, offs, List.drop_left]
theorem part_none (xs : Rns) (a b : Nat) (h : b ≤ a) : part xs a b = [] := by
  rw [part, List.drop_of_length_le (by rw [List.length_take]; omega)]; rfl
theorem part_step (xs : Rns) (a b k : Nat) (h : k < xs.length) : part (xs.take (k + 1)) a b = part (xs.take k) a b ++ (if a ≤ k ∧ k < b then (xs[k]).2 else []) := by
  unfold part
  have hlk : (xs.take k).length = k := by rw [List.length_take]; omega
  rw [List.take_succ_eq_append_getElem h, List.take_append, hlk]
  by_cases hb : k < b
  · have e1 : List.take (b - k) [xs[k]] = [xs[k]] := List.take_of_length_le (by simp; omega)
    have e2 : List.take b (xs.take k) = xs.take k := List.take_of_length_le (by omega)
    rw [e1, e2, List.drop_append, hlk]
    by_cases ha : a ≤ k
    · have : a - k = 0 := by omega
      rw [this, if_pos ⟨ha, hb⟩, bytesOf_append]
      simp [bytesOf]
    · rw [if_neg (by omega), List.drop_of_length_le (by simp; omega : [xs[k]].length ≤ a - k)]
      simp
  · have : b - k = 0 := by omega
    rw [this, if_neg (by omega)]
    simp
theorem part_one (xs : Rns) (k : Nat) (h : k < xs.length) : part xs k (k + 1) = (xs[k]).2 := by
  unfold part
  rw [List.take_succ_eq_append_getElem h, List.drop_append]
  have hlk : (xs.take k).length = k := by rw [List.length_take]; omega
  rw [List.drop_of_length_le (by omega), hlk]
  simp [bytesOf]
end Go.Proofs.YtpnljjcdlkjfhaaGreatDoor
namespace Go.Proofs.YtpnljjcdlkjfhaaGreatDoor

theorem atL_take_lt (l : List UInt8) (n k : Nat) (h : k < n) : atL (l.take n) k = atL l k := by
  unfold atL
  rw [List.getD_eq_getElem?_getD, List.getD_eq_getElem?_getD, List.getElem?_take_of_lt h]
theorem contL_take (l : List UInt8) (n k : Nat) (h : k < n) (hn : n ≤ l.length) : contL (l.take n) k = contL l k := by
  unfold contL
  rw [atL_take_lt l n k h]
  congr 1
  rw [List.length_take, decide_eq_decide]
  omega
theorem contL_one (l : List UInt8) (k : Nat) (h : 1 ≤ k) : contL (l.take 1) k = false := by
  unfold contL
  rw [List.length_take]
  have : decide (k < min 1 l.length) = false := by simp; omega
  rw [this]; rfl

theorem decL_one_bad (l : List UInt8) (h : ¬ atL l 0 < 128) : decL (l.take 1) = (65533, 1) := by
  unfold decL
  rw [atL_take_lt l 1 0 (by omega), if_neg h, contL_one l 1 (by omega)]
  simp

theorem decL_take (l : List UInt8) (hne : l ≠ []) : decL (l.take (decL l).2) = decL l := by
  have hle := decL_le l hne
  obtain ⟨d, hd⟩ : ∃ d, decL l = d := ⟨_, rfl⟩
  rw [hd] at hle ⊢
  unfold decL at hd
  split at hd
  · rename_i h1
    subst hd
    show decL (l.take 1) = _
    rw [decL, atL_take_lt l 1 0 (by omega), if_pos h1]
  rename_i h1
  split at hd
  · rename_i h2
    split at hd
    · rename_i h3
      subst hd
      replace hle : 2 ≤ l.length := hle
      show decL (l.take 2) = _
      rw [decL, atL_take_lt l 2 0 (by omega), atL_take_lt l 2 1 (by omega), contL_take l 2 1 (by omega) hle, if_neg h1, if_pos h2, if_pos h3]
    · subst hd
      exact decL_one_bad l h1
  rename_i h2
  split at hd
  · rename_i h3
    split at hd
    · rename_i h4
      subst hd
      replace hle : 3 ≤ l.length := hle
      show decL (l.take 3) = _
      rw [decL, atL_take_lt l 3 0 (by omega), atL_take_lt l 3 1 (by omega), atL_take_lt l 3 2 (by omega), contL_take l 3 1 (by omega) hle, contL_take l 3 2 (by omega) hle, if_neg h1, if_neg h2, if_pos h3, if_pos h4]
    · subst hd
      exact decL_one_bad l h1
  rename_i h3
  split at hd
  · rename_i h4
    split at hd
    · rename_i h5
      subst hd
      replace hle : 4 ≤ l.length := hle
      show decL (l.take 4) = _
      rw [decL, atL_take_lt l 4 0 (by omega), atL_take_lt l 4 1 (by omega), atL_take_lt l 4 2 (by omega), atL_take_lt l 4 3 (by omega), contL_take l 4 1 (by omega) hle, contL_take l 4 2 (by omega) hle, contL_take l 4 3 (by omega) hle, if_neg h1, if_neg h2, if_neg h3, if_pos h4, if_pos h5]
    · subst hd
      exact decL_one_bad l h1
  · subst hd
    exact decL_one_bad l h1

theorem scan_dec (l : List UInt8) : ∀ x ∈ scan l, decL x.2 = (x.1, x.2.length) := by
  refine scan_induct (fun l => ∀ x ∈ scan l, decL x.2 = (x.1, x.2.length)) (fun x h => by cases h) ?_ l
  intro l hl ih x hx
  rw [scan_cons l hl] at hx
  rcases List.mem_cons.1 hx with rfl | hx
  · rw [decL_take l hl, List.length_take, Nat.min_eq_left (decL_le l hl)]
  · exact ih x hx
theorem scan_stray (l : List UInt8) (x : Nat × List UInt8) (hx : x ∈ scan l) : strayL x.2 = strayP x := by
  rw [strayL, scan_dec l x hx]; rfl
/-- A rune that is no byte alone is written by its own bytes. -/
theorem scan_enc (l : List UInt8) (x : Nat × List UInt8) (hx : x ∈ scan l) (hs : strayP x = false) : Lib.encodeRune (x.1 : Int) = x.2 := by
  have h := enc_dec x.2 (scan_pos l x hx) (by rw [scan_stray l x hx]; exact hs)
  rw [scan_dec l x hx] at h
  rw [h]
  exact List.take_of_length_le (Nat.le_refl _)
end Go.Proofs.YtpnljjcdlkjfhaaGreatDoor
