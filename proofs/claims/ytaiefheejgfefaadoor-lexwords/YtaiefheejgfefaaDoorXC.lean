/- Own text. The document's text of a token. The document's text of a token, by its kind. -/
import Derived.Test.YtaiefheejgfefaaDoorX9
import Derived.Test.YtaiefheejgfefaaDoorRefQuote
namespace Go.Proofs.YtaiefheejgfefaaDoor
open Go.RowKit
set_option linter.unusedVariables false

theorem digitsF_more : ∀ (f g n : Nat), n < f → n < g → digitsF f n = digitsF g n
  | f + 1, g + 1, n, hf, hg => by
    unfold digitsF
    split
    · rw [digitsF_more f g (n / 10) (by omega) (by omega)]
    · rfl
theorem digitsL_eq (n : Nat) : digitsL n = if 9 < n then digitsL (n / 10) ++ [UInt8.ofNat (48 + n % 10)] else [UInt8.ofNat (48 + n % 10)] := by
  unfold digitsL
  conv => lhs; unfold digitsF
  split
  · rw [digitsF_more n (n / 10 + 1) (n / 10) (by omega) (by omega)]
  · rfl
theorem digitsL_len : ∀ (k n : Nat), n < 10 ^ (k + 1) → (digitsL n).length ≤ k + 1
  | 0, n, h => by rw [digitsL_eq, if_neg (by omega)]; simp
  | k + 1, n, h => by
    rw [digitsL_eq]
    split
    · have := digitsL_len k (n / 10) (by rw [Nat.pow_succ] at h; omega)
      simp
      omega
    · simp
theorem digitsL_small (n : Nat) (h : n ≤ 9223372036854775807) : (digitsL n).length ≤ 19 := digitsL_len 18 n (by omega)

set_option maxHeartbeats 2000000 in
theorem digits_any : ∀ (n : Nat) (w : World), n ≤ 9223372036854775807 → Calls Tryd.prog 41 #[.int .i64 (n : Int)] w fun e w' => e = .returned (.string ⟨(digitsL n).toArray⟩) ∧ Below w.heap.size w w' := by
  intro n
  induction n using Nat.strongRecOn with
  | _ n ih =>
    intro w hn
    have hb0 := fun o => (Below.refl w.heap.size w).alloc (Nat.le_refl _) o
    obtain ⟨r, hr⟩ : ∃ r : Nat, (r : Int) = (n : Int) % 10 := ⟨n % 10, by omega⟩
    have hcv := fun W => conv_1 W 5 (48 + (n : Int) % 10)
    have hu8 : UInt8.ofNat (48 + (n : Int) % 10).toNat = UInt8.ofNat (48 + n % 10) := by congr 1
    rw [hu8] at hcv
    by_cases h9 : 9 < n
    · have h92 : (9 : Int) < (n : Int) := by omega
      have HD : Hid (digitsL n = digitsL (n / 10) ++ [UInt8.ofNat (48 + n % 10)]) := by show _ = _; rw [digitsL_eq, if_pos h9]
      have hrec := fun W => ih (n / 10) (by omega) W (by omega)
      rw [show ((n / 10 : Nat) : Int) = (n : Int) / 10 from by omega] at hrec
      have hlen := digitsL_small (n / 10) (by omega)
      have hsz : (⟨(digitsL (n / 10)).toArray⟩ : ByteArray).size ≤ 19 := by rw [Lib.size_eq]; simpa using hlen
      clear ih hu8 hlen hr
      obtain ⟨D, hD⟩ : ∃ D : ByteArray, D = ⟨(digitsL (n / 10)).toArray⟩ := ⟨_, rfl⟩
      have HE : Hid (D.data.toList = digitsL (n / 10)) := by show _ = _; rw [hD]
      rw [← hD] at hrec hsz
      clear hD
      generalize UInt8.ofNat (48 + n % 10) = u at *
      go_enter Tryd.func41, Tryd.ntmps41
      go_wp2_with (go_at_call 41; refine (hrec _).mono ?_; rintro e W1 ⟨rfl, hb1⟩)
      go_ret
      refine ⟨ret_str ?_, (hb0 _).trans (hb1.mono (by simp))⟩
      rw [HD.out, ← HE.out]
      apply ByteArray.ext
      simp
      apply Array.toList_inj.1
      simp
    · have h92 : ¬ (9 : Int) < (n : Int) := by omega
      have HD : Hid (digitsL n = [UInt8.ofNat (48 + n % 10)]) := by show _ = _; rw [digitsL_eq, if_neg h9]
      clear ih hu8 hr
      generalize UInt8.ofNat (48 + n % 10) = u at *
      go_enter Tryd.func41, Tryd.ntmps41
      go_wp2
      go_ret
      exact ⟨ret_str (by rw [HD.out]), hb0 _⟩

/-- the text that a token would have. -/
def rawB (t : Tk) : ByteArray := if t.1 = 3 then ⟨(digitsL t.2.2.toNat).toArray⟩ else if t.1 = 4 then ⟨(quoteL t.2.1).toArray⟩ else ⟨t.2.1.toArray⟩
theorem rawB_list (t : Tk) (h : t.1 = 3 → 0 ≤ t.2.2) : rawL t = some (rawB t).data.toList := by
  unfold rawL rawB
  split
  · rename_i h3
    rw [if_neg (by have := h h3; omega)]
  · split
    · rfl
    · rfl
theorem eq_texts (a b : Bs) : ((⟨a.toArray⟩ : ByteArray).toList == (⟨b.toArray⟩ : ByteArray).toList) = (a == b) := by rw [Lib.toList_data, Lib.toList_data]

theorem rowForm {w : World} {base : Nat} {e : TypeId} {size : Nat} {v : Value} {n : Nat} {xs : List Value} (h : w.ownsRow base e size v n xs) : ∃ A c, v = .slice A n c := by
  rcases h.2 with ⟨rfl, rfl⟩ | ⟨g, cap, cur, rfl, _⟩
  · exact ⟨_, _, rfl⟩
  · exact ⟨_, _, rfl⟩
theorem rowSome {w : World} {base : Nat} {e : TypeId} {size : Nat} {v : Value} {n : Nat} {xs : List Value} (h : w.ownsRow base e size v n xs) (hn : 0 < n) : ∃ g c, v = .slice (some ⟨g, 0, none⟩) n c ∧ base ≤ g ∧ n ≤ c := by
  rcases h.2 with ⟨rfl, rfl⟩ | ⟨g, cap, cur, rfl, h1, h2, h3, _⟩
  · omega
  · exact ⟨_, _, rfl, h1, h3⟩
theorem lexF_err : ∀ (f a : Nat) (l : Bs) (sc : Bool) (c : Nat × Nat), lexF f a l sc = .error c → c.2 = 40 ∨ c.2 = 41
  | 0, a, l, sc, c, h => by cases h
  | f + 1, a, l, sc, c, h => by
    unfold lexF at h
    split at h
    · cases h; exact .inl rfl
    · split at h
      · cases h
      · cases hx : nextL (l.drop (pastL l).1) sc with
        | error e =>
          rw [hx] at h
          cases h
          exact next_err hx
        | ok x =>
          rw [hx] at h
          simp only at h
          cases hy : lexF f (a + (pastL l).1 + x.2) (l.drop ((pastL l).1 + x.2)) sc with
          | error d =>
            rw [hy] at h
            cases h
            exact lexF_err f _ _ sc _ hy
          | ok ts => rw [hy] at h; cases h
theorem isTk_one {s : Bs} {x : Tk × Nat} (h : lexL 0 s true = .ok [x]) (t : Tk) : isTk s t = (x.1 == t) := by unfold isTk; rw [h]
theorem isTk_err {s : Bs} {c : Nat × Nat} (h : lexL 0 s true = .error c) (t : Tk) : isTk s t = false := by unfold isTk; rw [h]
theorem isTk_not {s : Bs} {ts : List (Tk × Nat)} (h : lexL 0 s true = .ok ts) (hn : ts.length ≠ 1) (t : Tk) : isTk s t = false := by
  unfold isTk
  rw [h]
  match ts, hn with
  | [], _ => rfl
  | [x], hn => exact absurd rfl hn
  | x :: y :: r, _ => rfl
theorem tk_eq (a b c : Int) (x y : Bs) (d : Int) : (((a, x, c) : Tk) == (b, y, d)) = ((a == b) && ((x == y) && (c == d))) := rfl
theorem tok_cells {w : World} {base g c : Nat} {x : Tk × Nat} (h : ToksAt w base (.slice (some ⟨g, 0, none⟩) 1 c) (ints [x])) :
    w.cell? ⟨g, 0, none⟩ = some (.int .i64 x.1.1) ∧ w.cell? ⟨g, 1, none⟩ = some (.string ⟨x.1.2.1.toArray⟩) ∧ w.cell? ⟨g, 2, none⟩ = some (.int .i64 x.1.2.2) := by
  have h' : w.ownsRow base 36 4 (.slice (some ⟨g, 0, none⟩) 1 c) 1 (tokCells (x.1, (x.2 : Int))) := h
  refine ⟨?_, ?_, ?_⟩
  · rw [h'.cellAt 0 (by omega)]; rfl
  · rw [h'.cellAt 1 (by omega)]; rfl
  · rw [h'.cellAt 2 (by omega)]; rfl

theorem heap_at2 {W W2 : World} {n : Nat} {o : Obj} (hb : Below W.heap.size W W2) (h : W.heap[n]? = some o) : W2.heap[n]? = some o :=
  (hb.block n (Array.getElem?_eq_some_iff.1 h).1).trans h

theorem quoteL_len (x : Bs) : (quoteL x).length ≤ 7 * x.length + 2 := by
  have h1 := flat_le (scan x)
  have h2 := scan_length x
  have h3 : (bytesOf (scan x)).length = x.length := by rw [scan_bytes]
  unfold quoteL
  simp only [List.length_cons, List.length_append, List.length_nil]
  omega

set_option maxHeartbeats 4000000 in
set_option maxRecDepth 100000 in
theorem text_three (k n a : Int) (x : Bs) (w : World) (hk : k = 3) (hn0 : 0 ≤ n) (hn1 : n ≤ 9223372036854775807) :
    Calls Tryd.prog 26 #[tokV (k, x, n) a] w fun e w' => ∃ b, e = .returned (.tuple #[.string (rawB (k, x, n)), .bool b]) ∧ Hid (b = isTk (rawB (k, x, n)).data.toList (k, x, n)) ∧ Below w.heap.size w w' := by
  obtain ⟨m, rfl⟩ : ∃ m : Nat, n = (m : Int) := ⟨n.toNat, by omega⟩
  have hB : rawB (k, x, (m : Int)) = ⟨(digitsL m).toArray⟩ := by simp [rawB, hk]
  have hl19 := digitsL_small m (by omega)
  have hsz : (⟨(digitsL m).toArray⟩ : ByteArray).size ≤ 19 := by rw [Lib.size_eq]; simpa using hl19
  have hdg := fun W => digits_any m W (by omega)
  rw [hB]
  clear hB hl19
  generalize (⟨(digitsL m).toArray⟩ : ByteArray) = S at *
  have hlex := fun W => lex_ref S true W (by omega)
  subst hk
  simp only [tokV]
  have hm0 : ¬ (m : Int) < 0 := by omega
  generalize hX : (⟨x.toArray⟩ : ByteArray) = X
  go_enter Tryd.func26, Tryd.ntmps26
  go_wp2_with (go_at_call 41; refine (hdg _).mono ?_; rintro e W1 ⟨rfl, hb1⟩)
  have hblkA := four_new hb1
  have hbA : Below w.heap.size w W1 := ((Below.refl _ w).alloc (Nat.le_refl _) _).trans (hb1.mono (by simp))
  refine (hlex _).mono ?_
  rintro e W2 ⟨hres, hb2⟩
  have hbw : Below w.heap.size w W2 := hbA.trans (hb2.mono hbA.size)
  have hblk := heap_at2 hb2 hblkA
  obtain ⟨⟨c0, c1, c2, c3⟩, _⟩ := four_of hblk
  cases hl : lexL 0 S.data.toList true with
  | error c =>
    rw [hl] at hres
    have hc0 : ((c.2 : Int) == 0) = false := int_eqb (by rcases lexF_err _ _ _ _ _ hl with h | h <;> omega)
    have HB : Hid (isTk S.data.toList (3, x, (m : Int)) = false) := isTk_err hl _
    have hres2 : e = .returned (.tuple #[.slice none 0 0, .int .i64 (c.1 : Nat), .int .i64 (c.2 : Nat)]) := hres
    subst hres2
    clear hl hres hblk hblkA hlex
    go_wp2
    go_quiet (fail)
    go_wp2
    go_ret2
    exact ⟨false, rfl, HB.out.symm, hbw.trans ((drewN_below4 _ _).mono hbw.size)⟩
  | ok ts =>
    rw [hl] at hres
    obtain ⟨v, rfl, hrow⟩ := hres
    by_cases h1 : ts.length = 1
    · obtain ⟨y, rfl⟩ : ∃ y, ts = [y] := List.length_eq_one_iff.1 h1
      obtain ⟨g, cg, rfl, _, _⟩ := rowSome hrow (by simp [ints])
      obtain ⟨e0, e1, e2⟩ := tok_cells hrow
      have HB := isTk_one hl (3, x, (m : Int))
      obtain ⟨⟨yk, yx, yn⟩, ya⟩ := y
      rw [tk_eq] at HB
      have heq := eq_texts yx x
      rw [hX] at heq
      generalize (⟨yx.toArray⟩ : ByteArray) = Y at *
      rw [← heq] at HB
      have HBH : Hid (isTk S.data.toList (3, x, (m : Int)) = ((yk == 3) && ((Y.toList == X.toList) && (yn == (m : Int))))) := HB
      have hln : (ints [((yk, yx, yn), ya)]).length = 1 := rfl
      rw [hln]
      clear hl hrow hblk hblkA hlex HB heq h1 hln
      cases b1 : (yk == 3)
      · rw [b1] at HBH
        go_wp2
        go_quiet (fail)
        go_wp2
        go_ret2
        exact ⟨false, rfl, HBH.out.symm, hbw.trans ((drewN_below4 _ _).mono hbw.size)⟩
      · rw [b1] at HBH
        cases b2 : (Y.toList == X.toList)
        · rw [b2] at HBH
          go_wp2
          go_quiet (fail)
          go_wp2
          go_ret2
          exact ⟨false, rfl, HBH.out.symm, hbw.trans ((drewN_below4 _ _).mono hbw.size)⟩
        · rw [b2] at HBH
          go_wp2
          go_quiet (fail)
          go_wp2
          go_ret2
          exact ⟨(yn == (m : Int)), rfl, by show _ = _; rw [HBH.out]; rfl, hbw.trans ((drewN_below4 _ _).mono hbw.size)⟩
    · have HB : Hid (isTk S.data.toList (3, x, (m : Int)) = false) := isTk_not hl h1 _
      obtain ⟨A, cA, rfl⟩ := rowForm hrow
      have hn1 : (((ints ts).length : Int) == 1) = false := int_eqb (by rw [ints_length]; omega)
      clear hl hrow hblk hblkA hlex h1
      generalize (ints ts).length = N at *
      go_wp2
      go_quiet (fail)
      go_wp2
      go_ret2
      exact ⟨false, rfl, HB.out.symm, hbw.trans ((drewN_below4 _ _).mono hbw.size)⟩

end Go.Proofs.YtaiefheejgfefaaDoor
namespace Go.Proofs.YtaiefheejgfefaaDoor
open Go.RowKit
set_option linter.unusedVariables false

set_option maxHeartbeats 4000000 in
set_option maxRecDepth 100000 in
theorem text_four (k n a : Int) (x : Bs) (w : World) (hk : k = 4) (hx : x.length ≤ 1048576) :
    Calls Tryd.prog 26 #[tokV (k, x, n) a] w fun e w' => ∃ b, e = .returned (.tuple #[.string (rawB (k, x, n)), .bool b]) ∧ Hid (b = isTk (rawB (k, x, n)).data.toList (k, x, n)) ∧ Below w.heap.size w w' := by
  have hB : rawB (k, x, n) = ⟨(quoteL x).toArray⟩ := by simp [rawB, hk]
  have hqs : (⟨(quoteL x).toArray⟩ : ByteArray).size ≤ 1099511627776 := by rw [Lib.size_eq]; have := quoteL_len x; simp; omega
  have hq := fun W => refQuote_any ⟨x.toArray⟩ W (by rw [Lib.size_eq]; simp; omega)
  rw [show (⟨x.toArray⟩ : ByteArray).data.toList = x from by simp] at hq
  rw [hB]
  clear hB
  generalize (⟨(quoteL x).toArray⟩ : ByteArray) = S at *
  have hlex := fun W => lex_ref S true W hqs
  subst hk
  simp only [tokV]
  generalize hX : (⟨x.toArray⟩ : ByteArray) = X at *
  go_enter Tryd.func26, Tryd.ntmps26
  go_wp2_with (go_at_call 42; refine (hq _).mono ?_; rintro e W1 ⟨rfl, hb1⟩)
  have hblkA := four_new hb1
  have hbA : Below w.heap.size w W1 := ((Below.refl _ w).alloc (Nat.le_refl _) _).trans (hb1.mono (by simp))
  refine (hlex _).mono ?_
  rintro e W2 ⟨hres, hb2⟩
  have hbw : Below w.heap.size w W2 := hbA.trans (hb2.mono hbA.size)
  have hblk := heap_at2 hb2 hblkA
  obtain ⟨⟨c0, c1, c2, c3⟩, _⟩ := four_of hblk
  cases hl : lexL 0 S.data.toList true with
  | error c =>
    rw [hl] at hres
    have hc0 : ((c.2 : Int) == 0) = false := int_eqb (by rcases lexF_err _ _ _ _ _ hl with h | h <;> omega)
    have HB : Hid (isTk S.data.toList (4, x, n) = false) := isTk_err hl _
    have hres2 : e = .returned (.tuple #[.slice none 0 0, .int .i64 (c.1 : Nat), .int .i64 (c.2 : Nat)]) := hres
    subst hres2
    clear hl hres hblk hblkA hlex
    go_wp2
    go_quiet (fail)
    go_wp2
    go_ret2
    exact ⟨false, rfl, HB.out.symm, hbw.trans ((drewN_below4 _ _).mono hbw.size)⟩
  | ok ts =>
    rw [hl] at hres
    obtain ⟨v, rfl, hrow⟩ := hres
    by_cases h1 : ts.length = 1
    · obtain ⟨y, rfl⟩ : ∃ y, ts = [y] := List.length_eq_one_iff.1 h1
      obtain ⟨g, cg, rfl, _, _⟩ := rowSome hrow (by simp [ints])
      obtain ⟨e0, e1, e2⟩ := tok_cells hrow
      have HB := isTk_one hl (4, x, n)
      obtain ⟨⟨yk, yx, yn⟩, ya⟩ := y
      rw [tk_eq] at HB
      have heq := eq_texts yx x
      rw [hX] at heq
      generalize (⟨yx.toArray⟩ : ByteArray) = Y at *
      rw [← heq] at HB
      have HBH : Hid (isTk S.data.toList (4, x, n) = ((yk == 4) && ((Y.toList == X.toList) && (yn == n)))) := HB
      have hln : (ints [((yk, yx, yn), ya)]).length = 1 := rfl
      rw [hln]
      clear hl hrow hblk hblkA hlex HB heq h1 hln
      cases b1 : (yk == 4)
      · rw [b1] at HBH
        go_wp2
        go_quiet (fail)
        go_wp2
        go_ret2
        exact ⟨false, rfl, HBH.out.symm, hbw.trans ((drewN_below4 _ _).mono hbw.size)⟩
      · rw [b1] at HBH
        cases b2 : (Y.toList == X.toList)
        · rw [b2] at HBH
          go_wp2
          go_quiet (fail)
          go_wp2
          go_ret2
          exact ⟨false, rfl, HBH.out.symm, hbw.trans ((drewN_below4 _ _).mono hbw.size)⟩
        · rw [b2] at HBH
          go_wp2
          go_quiet (fail)
          go_wp2
          go_ret2
          exact ⟨(yn == n), rfl, by show _ = _; rw [HBH.out]; rfl, hbw.trans ((drewN_below4 _ _).mono hbw.size)⟩
    · have HB : Hid (isTk S.data.toList (4, x, n) = false) := isTk_not hl h1 _
      obtain ⟨A, cA, rfl⟩ := rowForm hrow
      have hn1 : (((ints ts).length : Int) == 1) = false := int_eqb (by rw [ints_length]; omega)
      clear hl hrow hblk hblkA hlex h1
      generalize (ints ts).length = N at *
      go_wp2
      go_quiet (fail)
      go_wp2
      go_ret2
      exact ⟨false, rfl, HB.out.symm, hbw.trans ((drewN_below4 _ _).mono hbw.size)⟩

set_option maxHeartbeats 4000000 in
set_option maxRecDepth 100000 in
theorem text_other (k n a : Int) (x : Bs) (w : World) (hk3 : k ≠ 3) (hk4 : k ≠ 4) (hx : x.length ≤ 1048576) :
    Calls Tryd.prog 26 #[tokV (k, x, n) a] w fun e w' => ∃ b, e = .returned (.tuple #[.string (rawB (k, x, n)), .bool b]) ∧ Hid (b = isTk (rawB (k, x, n)).data.toList (k, x, n)) ∧ Below w.heap.size w w' := by
  have hB : rawB (k, x, n) = ⟨x.toArray⟩ := by simp [rawB, hk3, hk4]
  have hxs : (⟨x.toArray⟩ : ByteArray).size ≤ 1099511627776 := by rw [Lib.size_eq]; simp; omega
  rw [hB]
  clear hB
  have hlex := fun W => lex_ref ⟨x.toArray⟩ true W hxs
  have hXl : (⟨x.toArray⟩ : ByteArray).data.toList = x := by simp
  rw [hXl] at hlex ⊢
  clear hXl
  have k3 := int_eqb hk3
  have k4 := int_eqb hk4
  simp only [tokV]
  generalize hX : (⟨x.toArray⟩ : ByteArray) = X at *
  go_enter Tryd.func26, Tryd.ntmps26
  go_wp2_with fail
  have hblkA := heap_alloc_new w (.cells #[.int .i64 k, .string X, .int .i64 n, .int .i64 a] 36)
  have hbA : Below w.heap.size w (w.alloc (.cells #[.int .i64 k, .string X, .int .i64 n, .int .i64 a] 36)) := (Below.refl _ w).alloc (Nat.le_refl _) _
  refine (hlex _).mono ?_
  rintro e W2 ⟨hres, hb2⟩
  have hbw : Below w.heap.size w W2 := hbA.trans (hb2.mono hbA.size)
  have hblk := heap_at2 hb2 hblkA
  obtain ⟨⟨c0, c1, c2, c3⟩, _⟩ := four_of hblk
  cases hl : lexL 0 x true with
  | error c =>
    rw [hl] at hres
    have hc0 : ((c.2 : Int) == 0) = false := int_eqb (by rcases lexF_err _ _ _ _ _ hl with h | h <;> omega)
    have HB : Hid (isTk x (k, x, n) = false) := isTk_err hl _
    have hres2 : e = .returned (.tuple #[.slice none 0 0, .int .i64 (c.1 : Nat), .int .i64 (c.2 : Nat)]) := hres
    subst hres2
    clear hl hres hblk hblkA hlex
    go_wp2
    go_quiet (fail)
    go_wp2
    go_ret2
    exact ⟨false, rfl, HB.out.symm, hbw.trans ((drewN_below4 _ _).mono hbw.size)⟩
  | ok ts =>
    rw [hl] at hres
    obtain ⟨v, rfl, hrow⟩ := hres
    by_cases h1 : ts.length = 1
    · obtain ⟨y, rfl⟩ : ∃ y, ts = [y] := List.length_eq_one_iff.1 h1
      obtain ⟨g, cg, rfl, _, _⟩ := rowSome hrow (by simp [ints])
      obtain ⟨e0, e1, e2⟩ := tok_cells hrow
      have HB := isTk_one hl (k, x, n)
      obtain ⟨⟨yk, yx, yn⟩, ya⟩ := y
      rw [tk_eq] at HB
      have heq := eq_texts yx x
      rw [hX] at heq
      generalize (⟨yx.toArray⟩ : ByteArray) = Y at *
      rw [← heq] at HB
      have HBH : Hid (isTk x (k, x, n) = ((yk == k) && ((Y.toList == X.toList) && (yn == n)))) := HB
      have hln : (ints [((yk, yx, yn), ya)]).length = 1 := rfl
      rw [hln]
      clear hl hrow hblk hblkA hlex HB heq h1 hln
      cases b1 : (yk == k)
      · rw [b1] at HBH
        go_wp2
        go_quiet (fail)
        go_wp2
        go_ret2
        exact ⟨false, rfl, HBH.out.symm, hbw.trans ((drewN_below4 _ _).mono hbw.size)⟩
      · rw [b1] at HBH
        cases b2 : (Y.toList == X.toList)
        · rw [b2] at HBH
          go_wp2
          go_quiet (fail)
          go_wp2
          go_ret2
          exact ⟨false, rfl, HBH.out.symm, hbw.trans ((drewN_below4 _ _).mono hbw.size)⟩
        · rw [b2] at HBH
          go_wp2
          go_quiet (fail)
          go_wp2
          go_ret2
          exact ⟨(yn == n), rfl, by show _ = _; rw [HBH.out]; rfl, hbw.trans ((drewN_below4 _ _).mono hbw.size)⟩
    · have HB : Hid (isTk x (k, x, n) = false) := isTk_not hl h1 _
      obtain ⟨A, cA, rfl⟩ := rowForm hrow
      have hn1 : (((ints ts).length : Int) == 1) = false := int_eqb (by rw [ints_length]; omega)
      clear hl hrow hblk hblkA hlex h1
      generalize (ints ts).length = N at *
      go_wp2
      go_quiet (fail)
      go_wp2
      go_ret2
      exact ⟨false, rfl, HB.out.symm, hbw.trans ((drewN_below4 _ _).mono hbw.size)⟩

theorem text_neg (k n a : Int) (x : Bs) (w : World) (hk : k = 3) (hn : n < 0) :
    Calls Tryd.prog 26 #[tokV (k, x, n) a] w fun e w' => e = .returned (.tuple #[.string ⟨#[]⟩, .bool false]) ∧ Below w.heap.size w w' := by
  subst hk
  simp only [tokV]
  go_enter Tryd.func26, Tryd.ntmps26
  go_wp2
  go_ret2
  exact ⟨rfl, (Below.refl _ w).alloc (Nat.le_refl _) _⟩

/-- a token's text, or that it may not be. -/
theorem text_any (t : Tk) (a : Int) (w : World) (hx : t.2.1.length ≤ 1048576) (hn : t.2.2 ≤ 9223372036854775807) :
    Calls Tryd.prog 26 #[tokV t a] w fun e w' => ∃ (S : ByteArray) (b : Bool), e = .returned (.tuple #[.string S, .bool b]) ∧ S.size ≤ 7 * 1048576 + 21 ∧ Hid ((b = true ∧ textL t = some S.data.toList) ∨ (b = false ∧ textL t = none)) ∧ Below w.heap.size w w' := by
  obtain ⟨k, x, n⟩ := t
  simp only at hx hn
  have key : ∀ {e : Ending} {w' : World}, (k = 3 → 0 ≤ n) → (∃ b, e = .returned (.tuple #[.string (rawB (k, x, n)), .bool b]) ∧ Hid (b = isTk (rawB (k, x, n)).data.toList (k, x, n)) ∧ Below w.heap.size w w') →
      ∃ (S : ByteArray) (b : Bool), e = .returned (.tuple #[.string S, .bool b]) ∧ S.size ≤ 7 * 1048576 + 21 ∧ Hid ((b = true ∧ textL (k, x, n) = some S.data.toList) ∨ (b = false ∧ textL (k, x, n) = none)) ∧ Below w.heap.size w w' := by
    rintro e w' h3 ⟨b, h1, h2, h4⟩
    have hr := rawB_list (k, x, n) h3
    refine ⟨_, b, h1, ?_, ?_, h4⟩
    · rw [Lib.size_eq]
      unfold rawB
      simp only
      split
      · have := digitsL_small n.toNat (by omega)
        simp
        omega
      · split
        · have := quoteL_len x
          simp
          omega
        · simp
          omega
    · have h5 := h2.out
      have ht : textL (k, x, n) = if isTk (rawB (k, x, n)).data.toList (k, x, n) then some (rawB (k, x, n)).data.toList else none := by unfold textL; rw [hr]
      rw [← h5] at ht
      cases b
      · exact .inr ⟨rfl, by rw [ht]; rfl⟩
      · exact .inl ⟨rfl, by rw [ht]; rfl⟩
  by_cases h3 : k = 3
  · by_cases h0 : n < 0
    · refine (text_neg k n a x w h3 h0).mono ?_
      rintro e w' ⟨h1, h2⟩
      exact ⟨⟨#[]⟩, false, h1, by decide, .inr ⟨rfl, by simp [textL, rawL, h3, h0]⟩, h2⟩
    · exact (text_three k n a x w h3 (by omega) hn).mono fun e w' h => key (fun _ => by omega) h
  · by_cases h4 : k = 4
    · exact (text_four k n a x w h4 hx).mono fun e w' h => key (fun h => absurd h h3) h
    · exact (text_other k n a x w h3 h4 hx).mono fun e w' h => key (fun h => absurd h h3) h

end Go.Proofs.YtaiefheejgfefaaDoor
