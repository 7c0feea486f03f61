/- Own text. The contract of the document's Encode: a rune's bytes. What is said by a text in quotes: reading back what was quoted. A text in quotes says the text, whatever stands behind; no byte of it is below 32. -/
import Derived.Lib.Small
import Derived.Test.YtpnljjcdlkjfhaaGreatDoorRv17
import Derived.Lib.RuneBytes
import Derived.Test.YtpnljjcdlkjfhaaGreatDoorRv18
import Derived.Test.YtpnljjcdlkjfhaaGreatDoorRv04
namespace Go.Proofs.YtpnljjcdlkjfhaaGreatDoor
open Go.RowKit
theorem conv_nums (W : World) (xs : List Int) (t : TypeId) :
    (convert 57 9 (.slice (some ⟨W.heap.size, 0, none⟩) xs.length xs.length)).run Tryz.prog (W.alloc (.cells (xs.map (Value.int .u8)).toArray t)) = .ok (.string (strOfNums xs)) (W.alloc (.cells (xs.map (Value.int .u8)).toArray t)) := by
  refine run_convert_bytes_arg _ 57 5 Tryz.underlying57 Tryz.underlying5 W.heap.size 0 xs.length xs.length xs rfl ?_ 9 Tryz.underlying9
  intro i hi
  have hb : (W.alloc (.cells (xs.map (Value.int .u8)).toArray t)).heap[W.heap.size]? = some (.cells (xs.map (Value.int .u8)).toArray t) := by
    show (W.heap.push _)[W.heap.size]? = _
    simp
  simp only [World.cell?, hb]
  simp [hi]
theorem conv_1 (W : World) (t : TypeId) (a : Int) : (convert 57 9 (.slice (some ⟨W.heap.size, 0, none⟩) 1 1)).run Tryz.prog (W.alloc (.cells #[.int .u8 a] t)) = .ok (.string ⟨#[UInt8.ofNat a.toNat]⟩) (W.alloc (.cells #[.int .u8 a] t)) := conv_nums W [a] t
theorem conv_2 (W : World) (t : TypeId) (a b : Int) : (convert 57 9 (.slice (some ⟨W.heap.size, 0, none⟩) 2 2)).run Tryz.prog (W.alloc (.cells #[.int .u8 a, .int .u8 b] t)) = .ok (.string ⟨#[UInt8.ofNat a.toNat, UInt8.ofNat b.toNat]⟩) (W.alloc (.cells #[.int .u8 a, .int .u8 b] t)) := conv_nums W [a, b] t
theorem conv_3 (W : World) (t : TypeId) (a b c : Int) : (convert 57 9 (.slice (some ⟨W.heap.size, 0, none⟩) 3 3)).run Tryz.prog (W.alloc (.cells #[.int .u8 a, .int .u8 b, .int .u8 c] t)) = .ok (.string ⟨#[UInt8.ofNat a.toNat, UInt8.ofNat b.toNat, UInt8.ofNat c.toNat]⟩) (W.alloc (.cells #[.int .u8 a, .int .u8 b, .int .u8 c] t)) := conv_nums W [a, b, c] t
theorem conv_4 (W : World) (t : TypeId) (a b c d : Int) : (convert 57 9 (.slice (some ⟨W.heap.size, 0, none⟩) 4 4)).run Tryz.prog (W.alloc (.cells #[.int .u8 a, .int .u8 b, .int .u8 c, .int .u8 d] t)) = .ok (.string ⟨#[UInt8.ofNat a.toNat, UInt8.ofNat b.toNat, UInt8.ofNat c.toNat, UInt8.ofNat d.toNat]⟩) (W.alloc (.cells #[.int .u8 a, .int .u8 b, .int .u8 c, .int .u8 d] t)) := conv_nums W [a, b, c, d] t

set_option maxHeartbeats 1000000 in
theorem encode_any (v : Int) (w : World) (h0 : 0 ≤ v) (h1 : v ≤ 1114111) (hs : v < 55296 ∨ 57344 ≤ v) :
    Calls Tryz.prog 266 #[.int .i64 v] w fun e w' => e = .returned (.string ⟨(Lib.encodeRune v).toArray⟩) ∧ Below w.heap.size w w' := by
  by_cases c1 : v < 128
  · have HE : Hid (Lib.encodeRuneZ v = [v]) := Lib.encodeRuneZ_one (by omega) (by omega)
    rw [Lib.encodeRune, HE.out]
    clear hs HE
    have hcv := conv_1 w
    go_enter Tryz.func266, Tryz.ntmps266
    go_wp2
    go_ret
    exact ⟨ret_str rfl, (Below.refl _ w).alloc (Nat.le_refl _) _⟩
  by_cases c2 : v < 2048
  · have HE : Hid (Lib.encodeRuneZ v = [192 + v / 64, 128 + v % 64]) := Lib.encodeRuneZ_two (by omega) (by omega)
    rw [Lib.encodeRune, HE.out]
    clear hs HE
    have hcv := conv_2 w
    go_enter Tryz.func266, Tryz.ntmps266
    go_wp2
    go_ret
    exact ⟨ret_str rfl, (Below.refl _ w).alloc (Nat.le_refl _) _⟩
  by_cases c3 : v < 65536
  · have HE : Hid (Lib.encodeRuneZ v = [224 + v / 4096, 128 + v / 64 % 64, 128 + v % 64]) := Lib.encodeRuneZ_three (by omega)
    rw [Lib.encodeRune, HE.out]
    clear hs HE
    have hcv := conv_3 w
    go_enter Tryz.func266, Tryz.ntmps266
    go_wp2
    go_ret
    exact ⟨ret_str rfl, (Below.refl _ w).alloc (Nat.le_refl _) _⟩
  · have HE : Hid (Lib.encodeRuneZ v = [240 + v / 262144, 128 + v / 4096 % 64, 128 + v / 64 % 64, 128 + v % 64]) := Lib.encodeRuneZ_four (by omega) (by omega)
    rw [Lib.encodeRune, HE.out]
    clear hs HE
    have hcv := conv_4 w
    go_enter Tryz.func266, Tryz.ntmps266
    go_wp2
    go_ret
    exact ⟨ret_str rfl, (Below.refl _ w).alloc (Nat.le_refl _) _⟩

/-- The digits with which a text goes on, up to a count: their number, their value behind one that stood ahead. -/
def digs : Nat → List UInt8 → Nat × Nat → Nat × Nat
  | 0, _, s => s
  | _ + 1, [], s => s
  | f + 1, c :: l, (k, v) => if hexv (c.toNat : Int) < 0 then (k, v) else digs f l (k + 1, v * 16 + (hexv (c.toNat : Int)).toNat)
/-- What stands behind an escaping u: what it says, and how many bytes it has. -/
def numL (l : List UInt8) : Option (List UInt8 × Nat) :=
  match l with
  | [] => none
  | c :: r =>
    if c.toNat ≠ 123 then none
    else if (digs 6 r (0, 0)).1 = 0 ∨ atL r (digs 6 r (0, 0)).1 ≠ 125 ∨ r.length ≤ (digs 6 r (0, 0)).1 ∨ Lib.validRune ((digs 6 r (0, 0)).2 : Int) = false then none
    else some (Lib.encodeRune ((digs 6 r (0, 0)).2 : Int), (digs 6 r (0, 0)).1 + 2)
end Go.Proofs.YtpnljjcdlkjfhaaGreatDoor
namespace Go.Proofs.YtpnljjcdlkjfhaaGreatDoor

theorem atL_app (p q : List UInt8) (k : Nat) (h : k < p.length) : atL (p ++ q) k = atL p k := by
  unfold atL
  rw [List.getD_eq_getElem?_getD, List.getD_eq_getElem?_getD, List.getElem?_append_left h]
theorem take_app (p q : List UInt8) : (p ++ q).take p.length = p := List.take_left
/-- A rune's bytes with something behind them are still that rune. -/
theorem decL_app (p q : List UInt8) (hne : p ≠ []) (hd : (decL p).2 = p.length) (hs : strayL p = false) : decL (p ++ q) = decL p := by
  have h0 : 0 < p.length := List.length_pos_iff.2 hne
  obtain ⟨d, hdd⟩ : ∃ d, decL p = d := ⟨_, rfl⟩
  have hs' : ¬ (d.1 = 65533 ∧ d.2 = 1) := by
    rw [strayL, hdd] at hs
    simp at hs
    intro h
    exact hs h.1 h.2
  rw [hdd] at hd ⊢
  unfold decL contL at hdd
  unfold decL contL
  rw [List.length_append]
  rw [atL_app p q 0 h0]
  split at hdd
  · rename_i h1
    rw [if_pos h1]; exact hdd
  rename_i h1
  rw [if_neg h1]
  split at hdd
  · rename_i h2
    split at hdd
    · rename_i h3
      subst hdd
      replace hd : 2 = p.length := hd
      rw [atL_app p q 1 (by omega)]
      simp at h2
      rw [if_pos (by simp; omega), if_pos h3]
    · subst hdd; exact absurd ⟨rfl, rfl⟩ hs'
  rename_i h2
  split at hdd
  · rename_i h3
    split at hdd
    · rename_i h4
      subst hdd
      replace hd : 3 = p.length := hd
      rw [atL_app p q 1 (by omega), atL_app p q 2 (by omega)]
      simp at h3
      rw [if_neg (by simp; omega), if_pos (by simp; omega), if_pos h4]
    · subst hdd; exact absurd ⟨rfl, rfl⟩ hs'
  rename_i h3
  split at hdd
  · rename_i h4
    split at hdd
    · rename_i h5
      subst hdd
      replace hd : 4 = p.length := hd
      rw [atL_app p q 1 (by omega), atL_app p q 2 (by omega), atL_app p q 3 (by omega)]
      simp at h4
      rw [if_neg (by simp; omega), if_neg (by simp; omega), if_pos (by simp; omega), if_pos h5]
    · subst hdd; exact absurd ⟨rfl, rfl⟩ hs'
  · subst hdd; exact absurd ⟨rfl, rfl⟩ hs'

/-- One rune is read. -/
theorem unqS_rune (p q : List UInt8) (r : Nat) (u : Unq) (pos : Nat) (hne : p ≠ []) (hd : decL p = (r, p.length)) (hs : strayL p = false) :
    unqS (scan (p ++ q)) u pos = match stepU u r with
      | none => none
      | some u' => if u'.st = 5 then some (u'.said, pos + 1) else unqS (scan q) u' (pos + p.length) := by
  have hd2 := decL_app p q hne (by rw [hd]) hs
  rw [hd] at hd2
  have hpq : p ++ q ≠ [] := by simp [hne]
  have hst : strayP (r, p) = false := by
    rw [strayL, hd] at hs
    exact hs
  rw [scan_cons _ hpq, hd2]
  simp only
  rw [take_app, List.drop_left, unqS, hst]
  rfl

theorem dec_ascii (c : UInt8) (h : c.toNat < 128) : decL [c] = (c.toNat, 1) := by
  have : atL [c] 0 = c.toNat := by simp [atL]
  rw [decL, this, if_pos h]
theorem unqS_ascii (c : UInt8) (q : List UInt8) (u : Unq) (pos : Nat) (h : c.toNat < 128) :
    unqS (scan (c :: q)) u pos = match stepU u c.toNat with
      | none => none
      | some u' => if u'.st = 5 then some (u'.said, pos + 1) else unqS (scan q) u' (pos + 1) := by
  have hd := dec_ascii c h
  exact unqS_rune [c] q c.toNat u pos (by simp) hd (by
    rw [strayL, hd]
    have : (c.toNat == 65533) = false := by simp; omega
    simp [this])
theorem unqS_go (c : UInt8) (q : List UInt8) (u u' : Unq) (pos : Nat) (h : c.toNat < 128) (hs : stepU u c.toNat = some u') (h5 : u'.st ≠ 5) : unqS (scan (c :: q)) u pos = unqS (scan q) u' (pos + 1) := by
  rw [unqS_ascii c q u pos h, hs]
  simp [h5]

theorem hexv_hexc : ∀ d : Fin 16, hexv ((hexc d.val).toNat : Int) = (d.val : Int) ∧ (hexc d.val).toNat < 128 ∧ (hexc d.val).toNat ≠ 125 ∧ 48 ≤ (hexc d.val).toNat := by decide +kernel
end Go.Proofs.YtpnljjcdlkjfhaaGreatDoor
namespace Go.Proofs.YtpnljjcdlkjfhaaGreatDoor

structure Good (x : Nat × List UInt8) : Prop where
  dec : decL x.2 = (x.1, x.2.length)
  ok : strayP x = false
  ne : x.2 ≠ []
  enc : Lib.encodeRune (x.1 : Int) = x.2

theorem step0 (u : Unq) (r : Int) (h : u.st = 0) : stepU u r = stepFirst u r := by simp [stepU, h]
theorem step1 (u : Unq) (r : Int) (h : u.st = 1) : stepU u r = stepInside u r := by simp [stepU, h]
theorem step2 (u : Unq) (r : Int) (h : u.st = 2) : stepU u r = stepEscaped u r := by simp [stepU, h]
theorem step3 (u : Unq) (r : Int) (h : u.st = 3) : stepU u r = stepNumbered u r := by simp [stepU, h]
theorem step4 (u : Unq) (r : Int) (h : u.st = 4) : stepU u r = stepCounting u r := by simp [stepU, h]

/-- A backslash inside of quotes. -/
theorem go_esc (u : Unq) (hst : u.st = 1) (hq : u.q = 34) (q : List UInt8) (pos : Nat) : unqS (scan (92 :: q)) u pos = unqS (scan q) (u.to 2) (pos + 1) := by
  refine unqS_go 92 q u (u.to 2) pos (by decide) ?_ (by simp [Unq.to])
  rw [step1 u _ hst, stepInside, if_neg (by decide), if_neg (by rw [hq]; decide), if_pos (by decide)]

/-- The number of a sign between braces. -/
theorem go_num (u : Unq) (n : Nat) (hn : n < 128) (q : List UInt8) (pos : Nat) :
    ∃ u', u'.st = 1 ∧ u'.q = u.q ∧ u'.said = u.said ++ Lib.encodeRune (n : Int) ∧ unqS (scan ([117, 123] ++ hexL n ++ 125 :: q)) (u.to 2) pos = unqS (scan q) u' (pos + 2 + (hexL n).length + 1) := by
  have e1 : unqS (scan ([117, 123] ++ hexL n ++ 125 :: q)) (u.to 2) pos = unqS (scan (hexL n ++ 125 :: q)) { u with st := 4, num := 0, dig := 0 } (pos + 2) := by
    show unqS (scan (117 :: 123 :: (hexL n ++ 125 :: q))) (u.to 2) pos = _
    rw [unqS_go 117 _ (u.to 2) (u.to 3) pos (by decide) (by rw [step2 _ _ rfl, stepEscaped, if_neg (by decide), if_neg (by decide), if_neg (by decide), if_pos (by decide)]; rfl) (by simp [Unq.to]),
      unqS_go 123 _ (u.to 3) { u with st := 4, num := 0, dig := 0 } (pos + 1) (by decide) (by rw [step3 _ _ rfl, stepNumbered, if_pos (by decide)]; rfl) (by simp)]
  have hdig : ∀ (v : Unq) (d : Nat) (rest : List UInt8) (p : Nat), d < 16 → v.st = 4 → v.dig ≤ 5 → unqS (scan (hexc d :: rest)) v p = unqS (scan rest) { v with num := v.num * 16 + d, dig := v.dig + 1 } (p + 1) := by
    intro v d rest p hd h4 h5
    obtain ⟨h1, h2, h3, _⟩ := hexv_hexc ⟨d, hd⟩
    simp only at h1 h2 h3
    refine unqS_go _ rest v _ p h2 ?_ (by simp [h4])
    rw [step4 _ _ h4, stepCounting, if_neg (by omega), if_neg (by rw [h1]; omega), h1]
    rfl
  have hend : ∀ (v : Unq) (p : Nat), v.st = 4 → v.num = n → v.dig ≠ 0 → unqS (scan (125 :: q)) v p = unqS (scan q) (v.say n) (p + 1) := by
    intro v p h4 hv hd
    refine unqS_go 125 q v (v.say n) p (by decide) ?_ (by simp [Unq.say])
    have hvr : Lib.validRune (n : Int) = true := by
      unfold Lib.validRune
      simp
      omega
    rw [step4 _ _ h4, stepCounting, if_pos (by decide), hv, if_neg (by rw [hvr]; simp; exact hd)]
  by_cases h16 : n < 16
  · refine ⟨({ u with st := 4, num := n, dig := 1 } : Unq).say n, rfl, rfl, rfl, ?_⟩
    rw [e1, hexL_one n h16]
    show unqS (scan (hexc n :: 125 :: q)) _ _ = _
    rw [hdig _ n _ _ h16 rfl (by simp), hend _ _ rfl (by simp) (by simp)]
    simp [Unq.say]
  · refine ⟨({ u with st := 4, num := n, dig := 2 } : Unq).say n, rfl, rfl, rfl, ?_⟩
    rw [e1, hexL_two n (by omega)]
    show unqS (scan (hexc (n / 16) :: hexc (n % 16) :: 125 :: q)) _ _ = _
    rw [hdig _ (n / 16) _ _ (by omega) rfl (by simp), hdig _ (n % 16) _ _ (by omega) rfl (by simp), hend _ _ rfl (by simp; omega) (by simp)]
    have e2 : n / 16 * 16 + n % 16 = n := by omega
    simp [Unq.say, e2]

theorem read_one (x : Nat × List UInt8) (g : Good x) (u : Unq) (hst : u.st = 1) (hq : u.q = 34) (rest : List UInt8) (pos : Nat) :
    ∃ u', u'.st = 1 ∧ u'.q = 34 ∧ u'.said = u.said ++ x.2 ∧ unqS (scan (quoteP x ++ rest)) u pos = unqS (scan rest) u' (pos + (quoteP x).length) := by
  have hesc : ∀ (c : UInt8) (n : Int), c.toNat < 128 → stepEscaped (u.to 2) c.toNat = some ((u.to 2).say n) → unqS (scan (92 :: c :: rest)) u pos = unqS (scan rest) ((u.to 2).say n) (pos + 2) := by
    intro c n hc hs
    rw [go_esc u hst hq, unqS_go c rest (u.to 2) ((u.to 2).say n) (pos + 1) hc (by rw [step2 _ _ rfl]; exact hs) (by simp [Unq.say])]
  unfold quoteP
  rw [g.ok]
  simp only [Bool.false_eq_true, if_false]
  by_cases h34 : x.1 = 34 ∨ x.1 = 92
  · rw [if_pos h34]
    have hx2 : x.2 = [UInt8.ofNat x.1] := by
      rw [← g.enc, Lib.encodeRune, Lib.encodeRuneZ_one (by omega) (by omega)]
      simp
    refine ⟨(u.to 2).say x.1, rfl, hq, by rw [← g.enc]; rfl, ?_⟩
    rw [hx2]
    rcases h34 with h | h
    · rw [h]
      exact hesc 34 34 (by decide) (by rw [stepEscaped, if_neg (by decide), if_neg (by decide), if_pos (by decide)]; rfl)
    · rw [h]
      exact hesc 92 92 (by decide) (by rw [stepEscaped, if_neg (by decide), if_neg (by decide), if_pos (by decide)]; rfl)
  rw [if_neg h34]
  by_cases h10 : x.1 = 10
  · rw [if_pos h10]
    refine ⟨(u.to 2).say x.1, rfl, hq, by rw [← g.enc]; rfl, ?_⟩
    rw [h10]
    exact hesc 110 10 (by decide) (by rw [stepEscaped, if_pos (by decide)])
  rw [if_neg h10]
  by_cases h9 : x.1 = 9
  · rw [if_pos h9]
    refine ⟨(u.to 2).say x.1, rfl, hq, by rw [← g.enc]; rfl, ?_⟩
    rw [h9]
    exact hesc 116 9 (by decide) (by rw [stepEscaped, if_neg (by decide), if_pos (by decide)])
  rw [if_neg h9]
  by_cases h32 : x.1 < 32 ∨ x.1 = 127
  · rw [if_pos h32]
    obtain ⟨u', h1, h2, h3, h4⟩ := go_num u x.1 (by omega) rest (pos + 1)
    refine ⟨u', h1, h2.trans hq, by rw [h3, g.enc], ?_⟩
    have e : [92, 117, 123] ++ hexL x.1 ++ [125] ++ rest = 92 :: ([117, 123] ++ hexL x.1 ++ 125 :: rest) := by simp
    rw [e, go_esc u hst hq, h4]
    congr 1
    simp
    omega
  rw [if_neg h32]
  refine ⟨u.say x.1, rfl, hq, by rw [← g.enc]; rfl, ?_⟩
  rw [unqS_rune x.2 rest x.1 u pos g.ne g.dec (by rw [strayL, g.dec]; exact g.ok), step1 u _ hst, stepInside, if_neg (by omega), if_neg (by rw [hq]; omega), if_neg (by omega)]
  simp [Unq.say]

theorem read_all (xs : Rns) (hxs : ∀ x ∈ xs, Good x) (more : List UInt8) : ∀ (u : Unq) (pos : Nat), u.st = 1 → u.q = 34 → unqS (scan (xs.flatMap quoteP ++ 34 :: more)) u pos = some (u.said ++ bytesOf xs, pos + (xs.flatMap quoteP).length + 1) := by
  induction xs with
  | nil =>
    intro u pos hst hq
    show unqS (scan (34 :: more)) u pos = _
    rw [unqS_ascii 34 more u pos (by decide), step1 u _ hst, stepInside, if_neg (by decide), if_pos (by rw [hq]; rfl)]
    simp [Unq.to, bytesOf]
  | cons x xs ih =>
    intro u pos hst hq
    obtain ⟨u', h1, h2, h3, h4⟩ := read_one x (hxs x (by simp)) u hst hq (xs.flatMap quoteP ++ 34 :: more) pos
    rw [List.flatMap_cons, List.append_assoc, h4, ih (fun y hy => hxs y (by simp [hy])) u' _ h1 h2, h3, bytesOf_cons, List.length_append, List.append_assoc]
    congr 2
    omega

theorem good_all (l : List UInt8) (hv : validL l = true) : ∀ x ∈ scan l, Good x := by
  intro x hx
  have hs : strayP x = false := by
    have := List.all_eq_true.1 hv x hx
    simpa using this
  exact ⟨scan_dec l x hx, hs, scan_pos l x hx, scan_enc l x hx hs⟩

/-- 1.5: of a text that is runes, Unquote of Quote, with whatever behind it, is the text and its length. -/
theorem unquote_quote (l more : List UInt8) (hv : validL l = true) : unquoteL (quoteL l ++ more) = some (l, (quoteL l).length) := by
  have e : quoteL l ++ more = 34 :: ((scan l).flatMap quoteP ++ 34 :: more) := by simp [quoteL]
  rw [unquoteL, e, unqS_go 34 _ Unq.start { Unq.start with st := 1, q := 34 } 0 (by decide) (by rw [step0 _ _ rfl, stepFirst, if_pos (by decide)]; rfl) (by simp),
    read_all (scan l) (good_all l hv) more _ _ rfl rfl, scan_bytes]
  simp [Unq.start, quoteL]
  omega

theorem enc_big (r : Nat) (h : 32 ≤ r) : ∀ b ∈ Lib.encodeRune (r : Int), 32 ≤ b.toNat := by
  intro b hb
  simp only [Lib.encodeRune, List.mem_map] at hb
  obtain ⟨z, hz, rfl⟩ := hb
  have hb := Lib.encodeRuneZ_byte _ z hz
  have h32 : 32 ≤ z := by
    unfold Lib.encodeRuneZ at hz
    repeat' split at hz
    all_goals simp at hz
    all_goals omega
  have : (z.toNat.toUInt8).toNat = z.toNat := by simp; omega
  rw [this]
  omega
theorem hexL_big (n : Nat) (hn : n < 256) : ∀ b ∈ hexL n, 32 ≤ b.toNat := by
  intro b hb
  have h16 : ∀ d, d < 16 → 32 ≤ (hexc d).toNat := fun d hd => by have := (hexv_hexc ⟨d, hd⟩).2.2.2; simp only at this; omega
  by_cases h : n < 16
  · rw [hexL_one n h] at hb
    simp at hb
    subst hb
    exact h16 n h
  · rw [hexL_two n (by omega)] at hb
    simp at hb
    rcases hb with rfl | rfl
    · exact h16 _ (by omega)
    · exact h16 _ (by omega)
theorem quoteP_big (l : List UInt8) (x : Nat × List UInt8) (hx : x ∈ scan l) : ∀ b ∈ quoteP x, 32 ≤ b.toNat := by
  intro b hb
  unfold quoteP at hb
  split at hb
  · have := hexL_big (atL x.2 0) (atL_lt x.2 0) b
    simp at hb
    rcases hb with rfl | rfl | rfl | h | rfl
    · decide
    · decide
    · decide
    · exact this h
    · decide
  · rename_i hs
    have he := scan_enc l x hx (by simpa using hs)
    split at hb
    · rename_i h34
      rw [← he] at hb
      rcases List.mem_cons.1 hb with rfl | h
      · decide
      · exact enc_big x.1 (by omega) b h
    · split at hb
      · simp at hb; rcases hb with rfl | rfl <;> decide
      · split at hb
        · simp at hb; rcases hb with rfl | rfl <;> decide
        · split at hb
          · rename_i h32
            have := hexL_big x.1 (by omega) b
            simp at hb
            rcases hb with rfl | rfl | rfl | h | rfl
            · decide
            · decide
            · decide
            · exact this h
            · decide
          · rename_i h32
            rw [← he] at hb
            exact enc_big x.1 (by omega) b hb
theorem quoteL_big (l : List UInt8) : ∀ b ∈ quoteL l, 32 ≤ b.toNat := by
  intro b hb
  simp [quoteL] at hb
  rcases hb with rfl | ⟨c, d, hm, hb⟩ | rfl
  · decide
  · exact quoteP_big l _ hm b hb
  · decide
end Go.Proofs.YtpnljjcdlkjfhaaGreatDoor
