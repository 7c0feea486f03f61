/- Own text. What is said by a text in quotes: reading back what was quoted. A text in quotes says the text, whatever stands behind; no byte of it is below 32. The contract of the document's function that cuts a text into runes. What stands behind a backslash, read at once and rune by rune: the same. The contracts of the document's number and escape. The contract of the document's escape. -/
import Derived.Test.YtfehmdfamndcaaaGreatDoorGm09
import Derived.Test.YtfehmdfamndcaaaGreatDoorGm08
import Derived.Test.YtfehmdfamndcaaaGreatDoorGm10
import Derived.OwnWalk
import Derived.Maps.AppendAt
namespace Go.Proofs.YtfehmdfamndcaaaGreatDoor

theorem atL_app (p q : List UInt8) (k : Nat) (h : k < p.length) : atL (p ++ q) k = atL p k := by
  unfold atL
  rw [List.getD_eq_getElem?_getD, List.getD_eq_getElem?_getD, List.getElem?_append_left h]
theorem take_app (p q : List UInt8) : (p ++ q).take p.length = p := List.take_left
/-- A rune's bytes with something behind them are still that rune. -/
theorem decL_app (p q : List UInt8) (hne : p ≠ []) (hd : (decL p).2 = p.length) (hs : strayL p = false) : decL (p ++ q) = decL p := by
  have h0 : 0 < p.length := List.length_pos_iff.2 hne
  obtain ⟨d, hdd⟩ : ∃ d, decL p = d := ⟨_, rfl⟩
  have hs' : ¬ (d.1 = 65533 ∧ d.2 = 1) := by
    rw [strayL, hdd] at hs
    simp at hs
    intro h
    exact hs h.1 h.2
  rw [hdd] at hd ⊢
  unfold decL contL at hdd
  unfold decL contL
  rw [List.length_append]
  rw [atL_app p q 0 h0]
  split at hdd
  · rename_i h1
    rw [if_pos h1]; exact hdd
  rename_i h1
  rw [if_neg h1]
  split at hdd
  · rename_i h2
    split at hdd
    · rename_i h3
      subst hdd
      replace hd : 2 = p.length := hd
      rw [atL_app p q 1 (by omega)]
      simp at h2
      rw [if_pos (by simp; omega), if_pos h3]
    · subst hdd; exact absurd ⟨rfl, rfl⟩ hs'
  rename_i h2
  split at hdd
  · rename_i h3
    split at hdd
    · rename_i h4
      subst hdd
      replace hd : 3 = p.length := hd
      rw [atL_app p q 1 (by omega), atL_app p q 2 (by omega)]
      simp at h3
      rw [if_neg (by simp; omega), if_pos (by simp; omega), if_pos h4]
    · subst hdd; exact absurd ⟨rfl, rfl⟩ hs'
  rename_i h3
  split at hdd
  · rename_i h4
    split at hdd
    · rename_i h5
      subst hdd
      replace hd : 4 = p.length := hd
      rw [atL_app p q 1 (by omega), atL_app p q 2 (by omega), atL_app p q 3 (by omega)]
      simp at h4
      rw [if_neg (by simp; omega), if_neg (by simp; omega), if_pos (by simp; omega), if_pos h5]
    · subst hdd; exact absurd ⟨rfl, rfl⟩ hs'
  · subst hdd; exact absurd ⟨rfl, rfl⟩ hs'

/-- One rune is read. -/
theorem unqS_rune (p q : List UInt8) (r : Nat) (u : Unq) (pos : Nat) (hne : p ≠ []) (hd : decL p = (r, p.length)) (hs : strayL p = false) :
    unqS (scan (p ++ q)) u pos = match stepU u r with
      | none => none
      | some u' => if u'.st = 5 then some (u'.said, pos + 1) else unqS (scan q) u' (pos + p.length) := by
  have hd2 := decL_app p q hne (by rw [hd]) hs
  rw [hd] at hd2
  have hpq : p ++ q ≠ [] := by simp [hne]
  have hst : strayP (r, p) = false := by
    rw [strayL, hd] at hs
    exact hs
  rw [scan_cons _ hpq, hd2]
  simp only
  rw [take_app, List.drop_left, unqS, hst]
  rfl

theorem dec_ascii (c : UInt8) (h : c.toNat < 128) : decL [c] = (c.toNat, 1) := by
  have : atL [c] 0 = c.toNat := by simp [atL]
  rw [decL, this, if_pos h]
theorem unqS_ascii (c : UInt8) (q : List UInt8) (u : Unq) (pos : Nat) (h : c.toNat < 128) :
    unqS (scan (c :: q)) u pos = match stepU u c.toNat with
      | none => none
      | some u' => if u'.st = 5 then some (u'.said, pos + 1) else unqS (scan q) u' (pos + 1) := by
  have hd := dec_ascii c h
  exact unqS_rune [c] q c.toNat u pos (by simp) hd (by
    rw [strayL, hd]
    have : (c.toNat == 65533) = false := by simp; omega
    simp [this])
theorem unqS_go (c : UInt8) (q : List UInt8) (u u' : Unq) (pos : Nat) (h : c.toNat < 128) (hs : stepU u c.toNat = some u') (h5 : u'.st ≠ 5) : unqS (scan (c :: q)) u pos = unqS (scan q) u' (pos + 1) := by
  rw [unqS_ascii c q u pos h, hs]
  simp [h5]

theorem hexv_hexc : ∀ d : Fin 16, hexv ((hexc d.val).toNat : Int) = (d.val : Int) ∧ (hexc d.val).toNat < 128 ∧ (hexc d.val).toNat ≠ 125 ∧ 48 ≤ (hexc d.val).toNat := by decide +kernel
end Go.Proofs.YtfehmdfamndcaaaGreatDoor
namespace Go.Proofs.YtfehmdfamndcaaaGreatDoor

structure Good (x : Nat × List UInt8) : Prop where
  dec : decL x.2 = (x.1, x.2.length)
  ok : strayP x = false
  ne : x.2 ≠ []
  enc : Lib.encodeRune (x.1 : Int) = x.2

theorem step0 (u : Unq) (r : Int) (h : u.st = 0) : stepU u r = stepFirst u r := by simp [stepU, h]
theorem step1 (u : Unq) (r : Int) (h : u.st = 1) : stepU u r = stepInside u r := by simp [stepU, h]
theorem step2 (u : Unq) (r : Int) (h : u.st = 2) : stepU u r = stepEscaped u r := by simp [stepU, h]
theorem step3 (u : Unq) (r : Int) (h : u.st = 3) : stepU u r = stepNumbered u r := by simp [stepU, h]
theorem step4 (u : Unq) (r : Int) (h : u.st = 4) : stepU u r = stepCounting u r := by simp [stepU, h]

/-- A backslash inside of quotes. -/
theorem go_esc (u : Unq) (hst : u.st = 1) (hq : u.q = 34) (q : List UInt8) (pos : Nat) : unqS (scan (92 :: q)) u pos = unqS (scan q) (u.to 2) (pos + 1) := by
  refine unqS_go 92 q u (u.to 2) pos (by decide) ?_ (by simp [Unq.to])
  rw [step1 u _ hst, stepInside, if_neg (by decide), if_neg (by rw [hq]; decide), if_pos (by decide)]

/-- The number of a sign between braces. -/
theorem go_num (u : Unq) (n : Nat) (hn : n < 128) (q : List UInt8) (pos : Nat) :
    ∃ u', u'.st = 1 ∧ u'.q = u.q ∧ u'.said = u.said ++ Lib.encodeRune (n : Int) ∧ unqS (scan ([117, 123] ++ hexL n ++ 125 :: q)) (u.to 2) pos = unqS (scan q) u' (pos + 2 + (hexL n).length + 1) := by
  have e1 : unqS (scan ([117, 123] ++ hexL n ++ 125 :: q)) (u.to 2) pos = unqS (scan (hexL n ++ 125 :: q)) { u with st := 4, num := 0, dig := 0 } (pos + 2) := by
    show unqS (scan (117 :: 123 :: (hexL n ++ 125 :: q))) (u.to 2) pos = _
    rw [unqS_go 117 _ (u.to 2) (u.to 3) pos (by decide) (by rw [step2 _ _ rfl, stepEscaped, if_neg (by decide), if_neg (by decide), if_neg (by decide), if_pos (by decide)]; rfl) (by simp [Unq.to]),
      unqS_go 123 _ (u.to 3) { u with st := 4, num := 0, dig := 0 } (pos + 1) (by decide) (by rw [step3 _ _ rfl, stepNumbered, if_pos (by decide)]; rfl) (by simp)]
  have hdig : ∀ (v : Unq) (d : Nat) (rest : List UInt8) (p : Nat), d < 16 → v.st = 4 → v.dig ≤ 5 → unqS (scan (hexc d :: rest)) v p = unqS (scan rest) { v with num := v.num * 16 + d, dig := v.dig + 1 } (p + 1) := by
    intro v d rest p hd h4 h5
    obtain ⟨h1, h2, h3, _⟩ := hexv_hexc ⟨d, hd⟩
    simp only at h1 h2 h3
    refine unqS_go _ rest v _ p h2 ?_ (by simp [h4])
    rw [step4 _ _ h4, stepCounting, if_neg (by omega), if_neg (by rw [h1]; omega), h1]
    rfl
  have hend : ∀ (v : Unq) (p : Nat), v.st = 4 → v.num = n → v.dig ≠ 0 → unqS (scan (125 :: q)) v p = unqS (scan q) (v.say n) (p + 1) := by
    intro v p h4 hv hd
    refine unqS_go 125 q v (v.say n) p (by decide) ?_ (by simp [Unq.say])
    have hvr : Lib.validRune (n : Int) = true := by
      unfold Lib.validRune
      simp
      omega
    rw [step4 _ _ h4, stepCounting, if_pos (by decide), hv, if_neg (by rw [hvr]; simp; exact hd)]
  by_cases h16 : n < 16
  · refine ⟨({ u with st := 4, num := n, dig := 1 } : Unq).say n, rfl, rfl, rfl, ?_⟩
    rw [e1, hexL_one n h16]
    show unqS (scan (hexc n :: 125 :: q)) _ _ = _
    rw [hdig _ n _ _ h16 rfl (by simp), hend _ _ rfl (by simp) (by simp)]
    simp [Unq.say]
  · refine ⟨({ u with st := 4, num := n, dig := 2 } : Unq).say n, rfl, rfl, rfl, ?_⟩
    rw [e1, hexL_two n (by omega)]
    show unqS (scan (hexc (n / 16) :: hexc (n % 16) :: 125 :: q)) _ _ = _
    rw [hdig _ (n / 16) _ _ (by omega) rfl (by simp), hdig _ (n % 16) _ _ (by omega) rfl (by simp), hend _ _ rfl (by simp; omega) (by simp)]
    have e2 : n / 16 * 16 + n % 16 = n := by omega
    simp [Unq.say, e2]

theorem read_one (x : Nat × List UInt8) (g : Good x) (u : Unq) (hst : u.st = 1) (hq : u.q = 34) (rest : List UInt8) (pos : Nat) :
    ∃ u', u'.st = 1 ∧ u'.q = 34 ∧ u'.said = u.said ++ x.2 ∧ unqS (scan (quoteP x ++ rest)) u pos = unqS (scan rest) u' (pos + (quoteP x).length) := by
  have hesc : ∀ (c : UInt8) (n : Int), c.toNat < 128 → stepEscaped (u.to 2) c.toNat = some ((u.to 2).say n) → unqS (scan (92 :: c :: rest)) u pos = unqS (scan rest) ((u.to 2).say n) (pos + 2) := by
    intro c n hc hs
    rw [go_esc u hst hq, unqS_go c rest (u.to 2) ((u.to 2).say n) (pos + 1) hc (by rw [step2 _ _ rfl]; exact hs) (by simp [Unq.say])]
  unfold quoteP
  rw [g.ok]
  simp only [Bool.false_eq_true, if_false]
  by_cases h34 : x.1 = 34 ∨ x.1 = 92
  · rw [if_pos h34]
    have hx2 : x.2 = [UInt8.ofNat x.1] := by
      rw [← g.enc, Lib.encodeRune, Lib.encodeRuneZ_one (by omega) (by omega)]
      simp
    refine ⟨(u.to 2).say x.1, rfl, hq, by rw [← g.enc]; rfl, ?_⟩
    rw [hx2]
    rcases h34 with h | h
    · rw [h]
      exact hesc 34 34 (by decide) (by rw [stepEscaped, if_neg (by decide), if_neg (by decide), if_pos (by decide)]; rfl)
    · rw [h]
      exact hesc 92 92 (by decide) (by rw [stepEscaped, if_neg (by decide), if_neg (by decide), if_pos (by decide)]; rfl)
  rw [if_neg h34]
  by_cases h10 : x.1 = 10
  · rw [if_pos h10]
    refine ⟨(u.to 2).say x.1, rfl, hq, by rw [← g.enc]; rfl, ?_⟩
    rw [h10]
    exact hesc 110 10 (by decide) (by rw [stepEscaped, if_pos (by decide)])
  rw [if_neg h10]
  by_cases h9 : x.1 = 9
  · rw [if_pos h9]
    refine ⟨(u.to 2).say x.1, rfl, hq, by rw [← g.enc]; rfl, ?_⟩
    rw [h9]
    exact hesc 116 9 (by decide) (by rw [stepEscaped, if_neg (by decide), if_pos (by decide)])
  rw [if_neg h9]
  by_cases h32 : x.1 < 32 ∨ x.1 = 127
  · rw [if_pos h32]
    obtain ⟨u', h1, h2, h3, h4⟩ := go_num u x.1 (by omega) rest (pos + 1)
    refine ⟨u', h1, h2.trans hq, by rw [h3, g.enc], ?_⟩
    have e : [92, 117, 123] ++ hexL x.1 ++ [125] ++ rest = 92 :: ([117, 123] ++ hexL x.1 ++ 125 :: rest) := by simp
    rw [e, go_esc u hst hq, h4]
    congr 1
    simp
    omega
  rw [if_neg h32]
  refine ⟨u.say x.1, rfl, hq, by rw [← g.enc]; rfl, ?_⟩
  rw [unqS_rune x.2 rest x.1 u pos g.ne g.dec (by rw [strayL, g.dec]; exact g.ok), step1 u _ hst, stepInside, if_neg (by omega), if_neg (by rw [hq]; omega), if_neg (by omega)]
  simp [Unq.say]

theorem read_all (xs : Rns) (hxs : ∀ x ∈ xs, Good x) (more : List UInt8) : ∀ (u : Unq) (pos : Nat), u.st = 1 → u.q = 34 → unqS (scan (xs.flatMap quoteP ++ 34 :: more)) u pos = some (u.said ++ bytesOf xs, pos + (xs.flatMap quoteP).length + 1) := by
  induction xs with
  | nil =>
    intro u pos hst hq
    show unqS (scan (34 :: more)) u pos = _
    rw [unqS_ascii 34 more u pos (by decide), step1 u _ hst, stepInside, if_neg (by decide), if_pos (by rw [hq]; rfl)]
    simp [Unq.to, bytesOf]
  | cons x xs ih =>
    intro u pos hst hq
    obtain ⟨u', h1, h2, h3, h4⟩ := read_one x (hxs x (by simp)) u hst hq (xs.flatMap quoteP ++ 34 :: more) pos
    rw [List.flatMap_cons, List.append_assoc, h4, ih (fun y hy => hxs y (by simp [hy])) u' _ h1 h2, h3, bytesOf_cons, List.length_append, List.append_assoc]
    congr 2
    omega

theorem good_all (l : List UInt8) (hv : validL l = true) : ∀ x ∈ scan l, Good x := by
  intro x hx
  have hs : strayP x = false := by
    have := List.all_eq_true.1 hv x hx
    simpa using this
  exact ⟨scan_dec l x hx, hs, scan_pos l x hx, scan_enc l x hx hs⟩

/-- 1.5: of a text that is runes, Unquote of Quote, with whatever behind it, is the text and its length. -/
theorem unquote_quote (l more : List UInt8) (hv : validL l = true) : unquoteL (quoteL l ++ more) = some (l, (quoteL l).length) := by
  have e : quoteL l ++ more = 34 :: ((scan l).flatMap quoteP ++ 34 :: more) := by simp [quoteL]
  rw [unquoteL, e, unqS_go 34 _ Unq.start { Unq.start with st := 1, q := 34 } 0 (by decide) (by rw [step0 _ _ rfl, stepFirst, if_pos (by decide)]; rfl) (by simp),
    read_all (scan l) (good_all l hv) more _ _ rfl rfl, scan_bytes]
  simp [Unq.start, quoteL]
  omega

theorem enc_big (r : Nat) (h : 32 ≤ r) : ∀ b ∈ Lib.encodeRune (r : Int), 32 ≤ b.toNat := by
  intro b hb
  simp only [Lib.encodeRune, List.mem_map] at hb
  obtain ⟨z, hz, rfl⟩ := hb
  have hb := Lib.encodeRuneZ_byte _ z hz
  have h32 : 32 ≤ z := by
    unfold Lib.encodeRuneZ at hz
    repeat' split at hz
    all_goals simp at hz
    all_goals omega
  have : (z.toNat.toUInt8).toNat = z.toNat := by simp; omega
  rw [this]
  omega
theorem hexL_big (n : Nat) (hn : n < 256) : ∀ b ∈ hexL n, 32 ≤ b.toNat := by
  intro b hb
  have h16 : ∀ d, d < 16 → 32 ≤ (hexc d).toNat := fun d hd => by have := (hexv_hexc ⟨d, hd⟩).2.2.2; simp only at this; omega
  by_cases h : n < 16
  · rw [hexL_one n h] at hb
    simp at hb
    subst hb
    exact h16 n h
  · rw [hexL_two n (by omega)] at hb
    simp at hb
    rcases hb with rfl | rfl
    · exact h16 _ (by omega)
    · exact h16 _ (by omega)
theorem quoteP_big (l : List UInt8) (x : Nat × List UInt8) (hx : x ∈ scan l) : ∀ b ∈ quoteP x, 32 ≤ b.toNat := by
  intro b hb
  unfold quoteP at hb
  split at hb
  · have := hexL_big (atL x.2 0) (atL_lt x.2 0) b
    simp at hb
    rcases hb with rfl | rfl | rfl | h | rfl
    · decide
    · decide
    · decide
    · exact this h
    · decide
  · rename_i hs
    have he := scan_enc l x hx (by simpa using hs)
    split at hb
    · rename_i h34
      rw [← he] at hb
      rcases List.mem_cons.1 hb with rfl | h
      · decide
      · exact enc_big x.1 (by omega) b h
    · split at hb
      · simp at hb; rcases hb with rfl | rfl <;> decide
      · split at hb
        · simp at hb; rcases hb with rfl | rfl <;> decide
        · split at hb
          · rename_i h32
            have := hexL_big x.1 (by omega) b
            simp at hb
            rcases hb with rfl | rfl | rfl | h | rfl
            · decide
            · decide
            · decide
            · exact this h
            · decide
          · rename_i h32
            rw [← he] at hb
            exact enc_big x.1 (by omega) b hb
theorem quoteL_big (l : List UInt8) : ∀ b ∈ quoteL l, 32 ≤ b.toNat := by
  intro b hb
  simp [quoteL] at hb
  rcases hb with rfl | ⟨c, d, hm, hb⟩ | rfl
  · decide
  · exact quoteP_big l _ hm b hb
  · decide
end Go.Proofs.YtfehmdfamndcaaaGreatDoor
namespace Go.Proofs.YtfehmdfamndcaaaGreatDoor
open Go.RowKit

def headV (l : List UInt8) : Int := if strayL l then -1 else ((decL l).1 : Int)
theorem headL_split (l : List UInt8) : headL l = (((decL l).2 : Int), headV l) := by
  unfold headL headV
  by_cases h : strayL l = true
  · rw [if_pos h, if_pos h]
    have : (decL l).2 = 1 := by simp [strayL] at h; exact h.2
    rw [this]; rfl
  · rw [if_neg h, if_neg h]
def strsV (xs : List (Nat × List UInt8)) : List Value := xs.map fun x => .string ⟨x.2.toArray⟩
theorem strsV_length (xs : List (Nat × List UInt8)) : (strsV xs).length = xs.length := by simp [strsV]
theorem strsV_append (xs ys : List (Nat × List UInt8)) : strsV (xs ++ ys) = strsV xs ++ strsV ys := by simp [strsV]

theorem cut_head (t : ByteArray) (n : Nat) : t.extract 0 n = ⟨(t.data.toList.take n).toArray⟩ := by
  apply ByteArray.ext
  simp [ByteArray.data_extract]
  apply Array.ext'
  simp
theorem cut_tail (t : ByteArray) (n : Nat) : (t.extract n t.size).data.toList = t.data.toList.drop n := drop_extract t n

def strLen : Value → Nat
  | .string t => t.size
  | _ => 0
theorem ne_nil_of_size (t : ByteArray) (h : 0 < t.size) : t.data.toList ≠ [] := by
  intro e
  have := Lib.size_eq t
  rw [e, List.length_nil] at this
  omega

/-- What is carried from round to round. -/
def RunesAt (w : World) (L : List UInt8) (N : Nat) (wr : World) (t : ByteArray) (v : Value) (b : Bool) : Prop :=
  ∃ done, wr.ownsRow w.heap.size 9 1 v done.length (strsV done) ∧ Below w.heap.size w wr ∧ done ++ scan t.data.toList = scan L ∧ b = (done.all fun x => !strayP x) ∧ done.length + t.size ≤ N

end Go.Proofs.YtfehmdfamndcaaaGreatDoor
namespace Go.Proofs.YtfehmdfamndcaaaGreatDoor

def escL : List UInt8 → Option (List UInt8 × Nat)
  | [] => none
  | c :: r =>
    if c.toNat = 110 then some ([10], 1)
    else if c.toNat = 116 then some ([9], 1)
    else if c.toNat = 34 ∨ c.toNat = 39 ∨ c.toNat = 92 then some ([c], 1)
    else if c.toNat = 117 then (match numL r with | none => none | some x => some (x.1, x.2 + 1))
    else none

theorem decL_high (l : List UInt8) (h : ¬ atL l 0 < 128) : 128 ≤ (decL l).1 := by
  unfold decL
  rw [if_neg h]
  repeat' split
  all_goals simp_all
  all_goals omega
theorem hexv_high (r : Int) (h : 128 ≤ r) : hexv r < 0 := by unfold hexv; repeat' split
                                                             all_goals omega
theorem hexv_low (c : UInt8) (h : 0 ≤ hexv (c.toNat : Int)) : c.toNat < 128 ∧ c.toNat ≠ 125 := by
  unfold hexv at h
  repeat' split at h
  all_goals omega

/-- A sign that is no single byte below 128 stops the reader where only such signs may stand. -/
theorem unqS_high (c : UInt8) (q : List UInt8) (u : Unq) (pos : Nat) (h : ¬ c.toNat < 128) (hs : ∀ r : Int, 128 ≤ r → stepU u r = none) : unqS (scan (c :: q)) u pos = none := by
  have hne : c :: q ≠ [] := by simp
  have ha : ¬ atL (c :: q) 0 < 128 := by simpa [atL] using h
  by_cases hst : strayL (c :: q) = true
  · exact unqS_stray _ hne hst u pos
  · have hst' : strayL (c :: q) = false := by simpa using hst
    exact unqS_none _ hne hst' u pos (hs _ (by have := decL_high _ ha; omega))
theorem unqS_stop (c : UInt8) (q : List UInt8) (u : Unq) (pos : Nat) (hs : ∀ r : Int, 128 ≤ r ∨ r = (c.toNat : Int) → stepU u r = none) : unqS (scan (c :: q)) u pos = none := by
  by_cases h : c.toNat < 128
  · rw [unqS_ascii c q u pos h, hs _ (Or.inr rfl)]
  · exact unqS_high c q u pos h (fun r hr => hs r (Or.inl hr))

theorem digs_le : ∀ (f : Nat) (r : List UInt8) (k v : Nat), k ≤ (digs f r (k, v)).1 ∧ (digs f r (k, v)).1 ≤ k + f
  | 0, _, k, v => by simp [digs]
  | f + 1, [], k, v => by simp [digs]
  | f + 1, c :: l, k, v => by
    rw [digs]
    split
    · simp
    · have := digs_le f l (k + 1) (v * 16 + (hexv (c.toNat : Int)).toNat)
      omega

/-- The digits are read one by one. -/
theorem digs_read : ∀ (f : Nat) (r : List UInt8) (u : Unq) (p : Nat), u.st = 4 → u.dig + f ≤ 6 →
    unqS (scan r) u p = unqS (scan (r.drop ((digs f r (u.dig, u.num)).1 - u.dig))) { u with num := (digs f r (u.dig, u.num)).2, dig := (digs f r (u.dig, u.num)).1 } (p + ((digs f r (u.dig, u.num)).1 - u.dig))
  | 0, r, u, p, _, _ => by simp [digs]
  | f + 1, [], u, p, _, _ => by simp [digs]
  | f + 1, c :: l, u, p, h4, h6 => by
    rw [digs]
    by_cases hx : hexv (c.toNat : Int) < 0
    · rw [if_pos hx]
      simp
    · rw [if_neg hx]
      obtain ⟨hc, hc2⟩ := hexv_low c (by omega)
      have hgo := unqS_go c l u { u with num := u.num * 16 + (hexv (c.toNat : Int)).toNat, dig := u.dig + 1 } p hc (by rw [step4 u _ h4, stepCounting, if_neg (by omega), if_neg (by omega)]) (by simp [h4])
      rw [hgo, digs_read f l { u with num := u.num * 16 + (hexv (c.toNat : Int)).toNat, dig := u.dig + 1 } (p + 1) h4 (by simp; omega)]
      simp only
      have hle := digs_le f l (u.dig + 1) (u.num * 16 + (hexv (c.toNat : Int)).toNat)
      generalize digs f l (u.dig + 1, u.num * 16 + (hexv (c.toNat : Int)).toNat) = d at *
      have e1 : d.1 - u.dig = (d.1 - (u.dig + 1)) + 1 := by omega
      rw [e1, List.drop_succ_cons]
      congr 1
      omega

/-- Where the digits end: all of them have been counted, the text is through, or no digit is at hand. -/
theorem digs_end : ∀ (f : Nat) (r : List UInt8) (k v : Nat), (digs f r (k, v)).1 = k + f ∨ r.length ≤ (digs f r (k, v)).1 - k ∨ hexv (atL r ((digs f r (k, v)).1 - k) : Int) < 0
  | 0, _, k, v => by simp [digs]
  | f + 1, [], k, v => by simp [digs]
  | f + 1, c :: l, k, v => by
    rw [digs]
    by_cases hx : hexv (c.toNat : Int) < 0
    · rw [if_pos hx]
      right; right
      simpa [atL] using hx
    · rw [if_neg hx]
      have ih := digs_end f l (k + 1) (v * 16 + (hexv (c.toNat : Int)).toNat)
      have hle := digs_le f l (k + 1) (v * 16 + (hexv (c.toNat : Int)).toNat)
      generalize digs f l (k + 1, v * 16 + (hexv (c.toNat : Int)).toNat) = d at *
      have e1 : d.1 - k = (d.1 - (k + 1)) + 1 := by omega
      rcases ih with h | h | h
      · left; omega
      · right; left; simp; omega
      · right; right
        have : atL (c :: l) (d.1 - k) = atL l (d.1 - (k + 1)) := by rw [e1]; simp [atL]
        rw [this]; exact h

theorem num_read (u : Unq) (r : List UInt8) (p : Nat) :
    (numL r = none → unqS (scan r) (u.to 3) p = none) ∧ ∀ t n, numL r = some (t, n) → ∃ u', u'.st = 1 ∧ u'.q = u.q ∧ u'.said = u.said ++ t ∧ unqS (scan r) (u.to 3) p = unqS (scan (r.drop n)) u' (p + n) := by
  cases r with
  | nil => exact ⟨fun _ => rfl, fun t n h => by simp [numL] at h⟩
  | cons c r =>
    by_cases hc : c.toNat = 123
    · have hc8 : c = 123 := UInt8.toNat_inj.1 hc
      have e0 : unqS (scan (c :: r)) (u.to 3) p = unqS (scan r) { u with st := 4, num := 0, dig := 0 } (p + 1) :=
        unqS_go c r (u.to 3) _ p (by omega) (by rw [step3 _ _ rfl, stepNumbered, if_pos (by omega)]; rfl) (by simp)
      have e1 := digs_read 6 r { u with st := 4, num := 0, dig := 0 } (p + 1) rfl (by simp)
      have hen := digs_end 6 r 0 0
      have hle := digs_le 6 r 0 0
      simp only [Nat.sub_zero] at e1 hen
      rw [e1] at e0
      unfold numL
      simp only
      rw [if_neg (by omega)]
      generalize digs 6 r (0, 0) = d at *
      rw [e0]
      by_cases hlen : r.length ≤ d.1
      · rw [if_pos (Or.inr (Or.inr (Or.inl hlen)))]
        refine ⟨fun _ => ?_, fun t n h => by cases h⟩
        rw [List.drop_of_length_le hlen]
        rfl
      · have hdr := List.drop_eq_getElem_cons (show d.1 < r.length by omega)
        have hat : (r[d.1]'(by omega)).toNat = atL r d.1 := by
          unfold atL
          rw [List.getD_eq_getElem?_getD, List.getElem?_eq_getElem (by omega)]; rfl
        by_cases h125 : atL r d.1 = 125
        · by_cases hbad : d.1 = 0 ∨ Lib.validRune (d.2 : Int) = false
          · rw [if_pos (hbad.elim Or.inl (fun h => Or.inr (Or.inr (Or.inr h))))]
            refine ⟨fun _ => ?_, fun t n h => by cases h⟩
            rw [hdr]
            refine unqS_stop _ _ _ _ ?_
            intro x hx
            rw [step4 _ _ rfl, stepCounting]
            rcases hx with hx | hx
            · rw [if_neg (by omega), if_pos (Or.inl (hexv_high x hx))]
            · rw [if_pos (by omega), if_pos hbad]
          · rw [if_neg (fun hh => hh.elim (fun h => hbad (Or.inl h)) (fun hh => hh.elim (fun h => h h125) (fun hh => hh.elim (fun h => hlen h) (fun h => hbad (Or.inr h)))))]
            refine ⟨(fun h => by cases h), fun t n h => ?_⟩
            cases h
            refine ⟨({ u with st := 4, num := d.2, dig := d.1 } : Unq).say d.2, rfl, rfl, rfl, ?_⟩
            rw [hdr, unqS_go _ _ _ (({ u with st := 4, num := d.2, dig := d.1 } : Unq).say d.2) _ (by omega) (by rw [step4 _ _ rfl, stepCounting, if_pos (by omega), if_neg hbad]) (by simp [Unq.say])]
            have e : (c :: r).drop (d.1 + 2) = r.drop (d.1 + 1) := by rw [List.drop_succ_cons]
            rw [e]
            congr 1
            omega
        · rw [if_pos (Or.inr (Or.inl h125))]
          refine ⟨fun _ => ?_, fun t n h => by cases h⟩
          rw [hdr]
          refine unqS_stop _ _ _ _ ?_
          intro x hx
          rw [step4 _ _ rfl, stepCounting]
          rcases hx with hx | hx
          · rw [if_neg (by omega), if_pos (Or.inl (hexv_high x hx))]
          · rw [if_neg (by omega), if_pos]
            rcases hen with h | h | h
            · right; simp only; omega
            · omega
            · left; rw [hx, hat]; exact h
    · unfold numL
      simp only
      rw [if_pos hc]
      refine ⟨fun _ => ?_, fun t n h => by cases h⟩
      refine unqS_stop c r _ p ?_
      intro x hx
      rw [step3 _ _ rfl, stepNumbered, if_neg (by omega)]

theorem esc_read (u : Unq) (r : List UInt8) (p : Nat) :
    (escL r = none → unqS (scan r) (u.to 2) p = none) ∧ ∀ t n, escL r = some (t, n) → ∃ u', u'.st = 1 ∧ u'.q = u.q ∧ u'.said = u.said ++ t ∧ unqS (scan r) (u.to 2) p = unqS (scan (r.drop n)) u' (p + n) := by
  cases r with
  | nil => exact ⟨fun _ => rfl, fun t n h => by simp [escL] at h⟩
  | cons c r =>
    have hone : ∀ (x : Int) (t : List UInt8), c.toNat < 128 → stepEscaped (u.to 2) c.toNat = some ((u.to 2).say x) → Lib.encodeRune x = t → ∀ t' n, some (t, 1) = some (t', n) → ∃ u', u'.st = 1 ∧ u'.q = u.q ∧ u'.said = u.said ++ t' ∧ unqS (scan (c :: r)) (u.to 2) p = unqS (scan ((c :: r).drop n)) u' (p + n) := by
      intro x t hc hs ht t' n h
      cases h
      refine ⟨(u.to 2).say x, rfl, rfl, by rw [← ht]; rfl, ?_⟩
      rw [unqS_go c r (u.to 2) ((u.to 2).say x) p hc (by rw [step2 _ _ rfl]; exact hs) (by simp [Unq.say])]
      rfl
    have e1 : ∀ x : Int, 0 ≤ x → x ≤ 127 → Lib.encodeRune x = [x.toNat.toUInt8] := fun x a b => by rw [Lib.encodeRune, Lib.encodeRuneZ_one a b]; rfl
    unfold escL
    simp only
    by_cases h110 : c.toNat = 110
    · rw [if_pos h110]
      exact ⟨(fun h => by cases h), hone 10 [10] (by omega) (by rw [stepEscaped, if_pos (by omega)]) (by rw [e1 10 (by omega) (by omega)]; rfl)⟩
    rw [if_neg h110]
    by_cases h116 : c.toNat = 116
    · rw [if_pos h116]
      exact ⟨(fun h => by cases h), hone 9 [9] (by omega) (by rw [stepEscaped, if_neg (by omega), if_pos (by omega)]) (by rw [e1 9 (by omega) (by omega)]; rfl)⟩
    rw [if_neg h116]
    by_cases h3 : c.toNat = 34 ∨ c.toNat = 39 ∨ c.toNat = 92
    · rw [if_pos h3]
      exact ⟨(fun h => by cases h), hone (c.toNat : Int) [c] (by omega) (by rw [stepEscaped, if_neg (by omega), if_neg (by omega), if_pos (by omega)]) (by rw [e1 _ (by omega) (by omega)]; simp)⟩
    rw [if_neg h3]
    by_cases h117 : c.toNat = 117
    · rw [if_pos h117]
      have e0 : unqS (scan (c :: r)) (u.to 2) p = unqS (scan r) (u.to 3) (p + 1) :=
        unqS_go c r (u.to 2) (u.to 3) p (by omega) (by rw [step2 _ _ rfl, stepEscaped, if_neg (by omega), if_neg (by omega), if_neg (by omega), if_pos (by omega)]; rfl) (by simp [Unq.to])
      obtain ⟨n1, n2⟩ := num_read u r (p + 1)
      rw [e0]
      cases hn : numL r with
      | none => exact ⟨fun _ => n1 hn, fun t n h => by cases h⟩
      | some x =>
        refine ⟨(fun h => by cases h), fun t n h => ?_⟩
        cases h
        obtain ⟨u', a1, a2, a3, a4⟩ := n2 x.1 x.2 hn
        refine ⟨u', a1, a2, a3, ?_⟩
        rw [a4, List.drop_succ_cons]
        congr 1
        omega
    rw [if_neg h117]
    refine ⟨fun _ => ?_, fun t n h => by cases h⟩
    refine unqS_stop c r _ p ?_
    intro x hx
    rw [step2 _ _ rfl, stepEscaped, if_neg (by omega), if_neg (by omega), if_neg (by omega), if_neg (by omega)]
end Go.Proofs.YtfehmdfamndcaaaGreatDoor
namespace Go.Proofs.YtfehmdfamndcaaaGreatDoor
open Go.RowKit

def numRes : Option (List UInt8 × Nat) → Ending
  | none => .returned (.tuple #[.string ⟨#[]⟩, .int .i64 0])
  | some x => .returned (.tuple #[.string ⟨x.1.toArray⟩, .int .i64 (x.2 : Int)])

theorem numL_eq (l : List UInt8) (i v : Nat) (h0 : atL l 0 = 123) (hne : l ≠ []) (hi : 1 ≤ i) (hd : digs 6 (l.drop 1) (0, 0) = (i - 1, v)) :
    numL l = if i = 1 ∨ l.length ≤ i ∨ atL l i ≠ 125 ∨ Lib.validRune (v : Int) = false then none else some (Lib.encodeRune (v : Int), i + 1) := by
  cases l with
  | nil => exact absurd rfl hne
  | cons c r =>
    have hc : c.toNat = 123 := by simpa [atL] using h0
    rw [List.drop_succ_cons, List.drop_zero] at hd
    have e : atL r (i - 1) = atL (c :: r) i := by
      obtain ⟨j, rfl⟩ : ∃ j, i = j + 1 := ⟨i - 1, by omega⟩
      simp [atL]
    unfold numL
    simp only [hd, e]
    rw [if_neg (by omega)]
    by_cases hb : i = 1 ∨ (c :: r).length ≤ i ∨ atL (c :: r) i ≠ 125 ∨ Lib.validRune (v : Int) = false
    · rw [if_pos hb, if_pos]
      rw [List.length_cons] at hb
      rcases hb with h | h | h | h
      · left; omega
      · right; right; left; omega
      · right; left; exact h
      · right; right; right; exact h
    · rw [if_neg hb, if_neg]
      · have : i - 1 + 2 = i + 1 := by omega
        rw [this]
      · intro hh
        apply hb
        rw [List.length_cons]
        rcases hh with h | h | h | h
        · left; omega
        · right; right; left; exact h
        · right; left; omega
        · right; right; right; exact h

theorem numL_none (l : List UInt8) (i v : Nat) (h0 : atL l 0 = 123) (hne : l ≠ []) (hi : 1 ≤ i) (hd : digs 6 (l.drop 1) (0, 0) = (i - 1, v)) (hb : i = 1 ∨ l.length ≤ i ∨ atL l i ≠ 125 ∨ Lib.validRune (v : Int) = false) : numL l = none := by
  rw [numL_eq l i v h0 hne hi hd, if_pos hb]
theorem numL_some (l : List UInt8) (i v : Nat) (h0 : atL l 0 = 123) (hne : l ≠ []) (hi : 1 ≤ i) (hd : digs 6 (l.drop 1) (0, 0) = (i - 1, v)) (hb : ¬ (i = 1 ∨ l.length ≤ i ∨ atL l i ≠ 125 ∨ Lib.validRune (v : Int) = false)) : numL l = some (Lib.encodeRune (v : Int), i + 1) := by
  rw [numL_eq l i v h0 hne hi hd, if_neg hb]
theorem valid_iff (v : Nat) : Lib.validRune (v : Int) = false ↔ (1114111 < v ∨ (55296 ≤ v ∧ v < 57344)) := by
  unfold Lib.validRune
  simp
  omega

end Go.Proofs.YtfehmdfamndcaaaGreatDoor
namespace Go.Proofs.YtfehmdfamndcaaaGreatDoor
open Go.RowKit

theorem numL_len (l t : List UInt8) (n : Nat) (h : numL l = some (t, n)) : t.length ≤ n + 1 ∧ 3 ≤ n ∧ n ≤ 8 ∧ n ≤ l.length := by
  cases l with
  | nil => simp [numL] at h
  | cons c r =>
    unfold numL at h
    simp only at h
    split at h
    · cases h
    · split at h
      · cases h
      · rename_i hb
        have hle := digs_le 6 r 0 0
        have hl := Lib.runeCells_le ((digs 6 r (0, 0)).2 : Int)
        rw [Lib.runeCells_length] at hl
        cases h
        have hbb : ¬ (digs 6 r (0, 0)).1 = 0 ∧ ¬ r.length ≤ (digs 6 r (0, 0)).1 := ⟨fun e => hb (Or.inl e), fun e => hb (Or.inr (Or.inr (Or.inl e)))⟩
        rw [List.length_cons]
        omega
theorem escL_len (l t : List UInt8) (n : Nat) (h : escL l = some (t, n)) : t.length ≤ n ∧ 1 ≤ n ∧ n ≤ 9 ∧ n ≤ l.length := by
  cases l with
  | nil => simp [escL] at h
  | cons c r =>
    unfold escL at h
    simp only at h
    rw [List.length_cons]
    split at h
    · cases h; simp
    · split at h
      · cases h; simp
      · split at h
        · cases h; simp
        · split at h
          · cases hn : numL r with
            | none => rw [hn] at h; cases h
            | some x =>
              rw [hn] at h
              cases h
              have := numL_len r x.1 x.2 hn
              omega
          · cases h

end Go.Proofs.YtfehmdfamndcaaaGreatDoor
