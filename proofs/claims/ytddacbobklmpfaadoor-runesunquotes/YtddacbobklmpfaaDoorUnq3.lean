/- The contract of Unquote of package runes: what the text in quotes says with which a text begins, or that there is none. -/
import Derived.Test.YtddacbobklmpfaaDoorUnq2
namespace Go.Proofs.YtddacbobklmpfaaDoor
open Go.RowKit

/-- How many bytes have been read that nothing stands for yet. -/
def Unq.pend (u : Unq) : Nat := if u.st = 2 then 1 else if u.st = 3 then 2 else if u.st = 4 then 3 + u.dig else 0
theorem enc_small (r : Int) (h0 : 0 ≤ r) (h1 : r ≤ 127) : (Lib.encodeRune r).length = 1 := by rw [Lib.encodeRune, Lib.encodeRuneZ_one h0 h1]; rfl
theorem stepU_ok (u u' : Unq) (r : Int) (n : Nat) (h : stepU u r = some u') (hok : u.ok) (hn1 : 1 ≤ n) (hrn : (Lib.encodeRune r).length ≤ n) : u'.ok ∧ u'.said.length + u'.pend ≤ u.said.length + u.pend + n := by
  obtain ⟨h0, h5, hd, hn⟩ := hok
  have hsay : ∀ x : Int, (Lib.encodeRune x).length ≤ u.pend + n → (u.say x).ok ∧ (u.say x).said.length + (u.say x).pend ≤ u.said.length + u.pend + n := by
    intro x hx
    refine ⟨⟨by simp [Unq.say], by simp [Unq.say], hd, hn⟩, ?_⟩
    have hp : (u.say x).pend = 0 := by simp [Unq.pend, Unq.say]
    rw [hp]
    simp only [Unq.say, List.length_append]
    omega
  unfold stepU at h
  split at h
  · unfold stepFirst at h
    split at h
    · cases h
      refine ⟨⟨by simp, by simp, hd, hn⟩, ?_⟩
      simp [Unq.pend]
      omega
    · cases h
  · split at h
    · rename_i hs1
      have hp : u.pend = 0 := by simp [Unq.pend, hs1]
      unfold stepInside at h
      repeat' split at h
      all_goals cases h
      · refine ⟨⟨by simp [Unq.to], by simp [Unq.to], hd, hn⟩, ?_⟩
        simp [Unq.pend, Unq.to]
        omega
      · refine ⟨⟨by simp [Unq.to], by simp [Unq.to], hd, hn⟩, ?_⟩
        rw [hp]
        simp [Unq.pend, Unq.to]
        omega
      · exact hsay r (by omega)
    · split at h
      · rename_i hs2
        have hp : u.pend = 1 := by simp [Unq.pend, hs2]
        unfold stepEscaped at h
        repeat' split at h
        all_goals cases h
        · exact hsay 10 (by rw [enc_small 10 (by omega) (by omega)]; omega)
        · exact hsay 9 (by rw [enc_small 9 (by omega) (by omega)]; omega)
        · exact hsay r (by omega)
        · refine ⟨⟨by simp [Unq.to], by simp [Unq.to], hd, hn⟩, ?_⟩
          rw [hp]
          simp [Unq.pend, Unq.to]
          omega
      · split at h
        · rename_i hs3
          have hp : u.pend = 2 := by simp [Unq.pend, hs3]
          unfold stepNumbered at h
          split at h
          · cases h
            refine ⟨⟨by simp, by simp, by simp, by simp⟩, ?_⟩
            rw [hp]
            simp [Unq.pend]
            omega
          · cases h
        · split at h
          · rename_i hs4
            have hp : u.pend = 3 + u.dig := by simp [Unq.pend, hs4]
            unfold stepCounting at h
            split at h
            · split at h
              · cases h
              · rename_i hnn
                cases h
                have hl := Lib.runeCells_le (u.num : Int)
                rw [Lib.runeCells_length] at hl
                exact hsay _ (by omega)
            · split at h
              · cases h
              · rename_i hne
                cases h
                have hr := hexv_range r
                refine ⟨⟨h0, h5, ?_, ?_⟩, ?_⟩
                · show u.dig + 1 ≤ 6
                  omega
                · show u.num * 16 + (hexv r).toNat < 16 ^ (u.dig + 1)
                  rw [Nat.pow_succ]
                  omega
                · rw [hp]
                  simp [Unq.pend, hs4]
                  omega
          · cases h

theorem unqPost_ret {b : Nat} {o : Option Unq} {w w' : World} {e : Ending} (h : UnqPost b o w e w') : ∃ bo, e = .returned (.bool bo) ∧ UnqPost b o w (.returned (.bool bo)) w' := by
  obtain ⟨hb, hm⟩ := h
  cases o with
  | none => exact ⟨false, hm, hb, rfl⟩
  | some u' => exact ⟨true, hm.1, hb, rfl, hm.2⟩

set_option maxHeartbeats 1000000 in
theorem take_any (b : Nat) (u : Unq) (r : Int) (w : World) (hr0 : -2147483648 ≤ r) (hr1 : r ≤ 2147483647) (hI : IsUnq b u w) (hl : u.said.length + 4 ≤ 140737488355328) (hok : u.ok) (h5 : u.st ≠ 5) :
    Calls Tryd.prog 33 #[.pointer (some ⟨b, 0, none⟩), .int .i32 r] w fun e w' => UnqPost b (stepU u r) w e w' := by
  obtain ⟨hs0, hs5, hd, hn⟩ := hok
  have hf := hI.free
  obtain ⟨a, c, h0, h1, h2, h3, h4, ho⟩ := hI.cells
  clear h1 h2 ho
  have hcase : u.st = 0 ∨ u.st = 1 ∨ u.st = 2 ∨ u.st = 3 ∨ u.st = 4 := by omega
  rcases hcase with hs | hs | hs | hs | hs
  · have hs1 : stepU u r = stepFirst u r := by simp [stepU, hs]
    have hc := takeFirst_any b u r w hI
    rw [← hs1] at hc
    rw [hs] at h0
    clear hs hs0 hs5 h5 hn hd hs1 h3 h4
    go_enter Tryd.func33, Tryd.ntmps33
    go_wp2_with (go_at_call 40; refine hc.mono ?_; intro e w' hp0; obtain ⟨bo, rfl, hp⟩ := unqPost_ret hp0)
    go_ret
    exact hp
  · have hs1 : stepU u r = stepInside u r := by simp [stepU, hs]
    have hc := takeInside_any b u r w hr0 hr1 hI hl
    rw [← hs1] at hc
    rw [hs] at h0
    clear hs hs0 hs5 h5 hn hd hs1 h3 h4
    go_enter Tryd.func33, Tryd.ntmps33
    go_wp2_with (go_at_call 41; refine hc.mono ?_; intro e w' hp0; obtain ⟨bo, rfl, hp⟩ := unqPost_ret hp0)
    go_ret
    exact hp
  · have hs1 : stepU u r = stepEscaped u r := by simp [stepU, hs]
    have hc := takeEscaped_any b u r w hr0 hr1 hI hl
    rw [← hs1] at hc
    rw [hs] at h0
    clear hs hs0 hs5 h5 hn hd hs1 h3 h4
    go_enter Tryd.func33, Tryd.ntmps33
    go_wp2_with (go_at_call 42; refine hc.mono ?_; intro e w' hp0; obtain ⟨bo, rfl, hp⟩ := unqPost_ret hp0)
    go_ret
    exact hp
  · have hs1 : stepU u r = stepNumbered u r := by simp [stepU, hs]
    rw [hs] at h0
    have HI2 : Hid (IsUnq b { u with st := 4, num := 0, dig := 0 } (((w.setCell ⟨b, 0, none⟩ (.int .i64 4)).setCell ⟨b, 3, none⟩ (.int .i32 ((0 : Nat) : Int))).setCell ⟨b, 4, none⟩ (.int .i64 ((0 : Nat) : Int)))) := ((hI.set0 4).set3 0).set4 0
    by_cases h123 : r = 123
    · have HS : Hid (stepU u r = some { u with st := 4, num := 0, dig := 0 }) := by rw [hs1, stepNumbered, if_pos h123]; trivial
      clear hs hs0 hs5 h5 hn hd hs1
      subst h123
      go_enter Tryd.func33, Tryd.ntmps33
      go_wp2_with fail
      go_ret
      exact unqPost_some HS.out rfl (below_set (below_set (below_set (Below.refl _ _)))) HI2.out (keep_set (keep_set (keep_set (Lib.OthersKept.refl _ _ _))))
    · have HS : Hid (stepU u r = none) := by rw [hs1, stepNumbered, if_neg h123]; trivial
      have b123 : (r == 123) = false := by simp; exact h123
      clear hs hs0 hs5 h5 hn hd hs1 h123
      go_enter Tryd.func33, Tryd.ntmps33
      go_wp2_with fail
      go_ret
      exact unqPost_none HS.out rfl (below_set (below_set (below_set (Below.refl _ _))))
  · have hs1 : stepU u r = stepCounting u r := by simp [stepU, hs]
    have hc := takeCounting_any b u r w hr0 hr1 hI hl hd hn
    rw [← hs1] at hc
    rw [hs] at h0
    clear hs hs0 hs5 h5 hn hd hs1 h3 h4
    go_enter Tryd.func33, Tryd.ntmps33
    go_wp2_with (go_at_call 43; refine hc.mono ?_; intro e w' hp0; obtain ⟨bo, rfl, hp⟩ := unqPost_ret hp0)
    go_ret
    exact hp

def Unq.start : Unq := { st := 0, q := 0, num := 0, dig := 0, said := [] }
/-- What the runes of a text say from a state of the reader on; the place is that of the first of them. -/
def unqS : List (Nat × List UInt8) → Unq → Nat → Option (List UInt8 × Nat)
  | [], _, _ => none
  | x :: xs, u, pos => if strayP x then none else match stepU u x.1 with
    | none => none
    | some u' => if u'.st = 5 then some (u'.said, pos + 1) else unqS xs u' (pos + x.2.length)
/-- What a text in quotes says, and how many bytes it has. -/
def unquoteL (l : List UInt8) : Option (List UInt8 × Nat) := unqS (scan l) Unq.start 0
def unqRes : Option (List UInt8 × Nat) → Ending
  | none => .returned (.tuple #[.string ⟨#[]⟩, .int .i64 0, .int .i64 10])
  | some x => .returned (.tuple #[.string ⟨x.1.toArray⟩, .int .i64 (x.2 : Int), .int .i64 0])

theorem unqS_stray (l : List UInt8) (h : l ≠ []) (hs : strayL l = true) (u : Unq) (pos : Nat) : unqS (scan l) u pos = none := by
  rw [scan_cons l h, unqS, ← strayL_eq l h, hs]; rfl
theorem unqS_none (l : List UInt8) (h : l ≠ []) (hs : strayL l = false) (u : Unq) (pos : Nat) (hu : stepU u (decL l).1 = none) : unqS (scan l) u pos = none := by
  rw [scan_cons l h, unqS, ← strayL_eq l h, hs, hu]; rfl
theorem unqS_end (l : List UInt8) (h : l ≠ []) (hs : strayL l = false) (u u' : Unq) (pos : Nat) (hu : stepU u (decL l).1 = some u') (h5 : u'.st = 5) : unqS (scan l) u pos = some (u'.said, pos + 1) := by
  rw [scan_cons l h, unqS, ← strayL_eq l h, hs, hu]
  simp [h5]
theorem unqS_more (l : List UInt8) (h : l ≠ []) (hs : strayL l = false) (u u' : Unq) (pos : Nat) (hu : stepU u (decL l).1 = some u') (h5 : u'.st ≠ 5) : unqS (scan l) u pos = unqS (scan (l.drop (decL l).2)) u' (pos + (decL l).2) := by
  have := decL_le l h
  rw [scan_cons l h, unqS, ← strayL_eq l h, hs, hu]
  simp [h5, Nat.min_eq_left this]

theorem conv_row {w : World} {B n c : Nat} {a : Option Addr} {l : List UInt8} (h : w.ownsRowF B 5 1 (.slice a n c) n (Lib.byteCells l)) :
    (convert 46 9 (.slice a n c)).run Tryd.prog w = .ok (.string ⟨l.toArray⟩) w := by
  have hn : n = l.length := by have := h.1; rw [Lib.byteCells_length] at this; omega
  rcases h.2 with ⟨hv, h0⟩ | ⟨g, cap, cur, fz, hv, _⟩
  · cases hv
    have hl : l = [] := List.eq_nil_of_length_eq_zero (by omega)
    subst hl
    exact run_convert_bytes_nil w 46 5 Tryd.underlying46 Tryd.underlying5 _ _ 9 Tryd.underlying9
  · cases hv
    subst hn
    refine run_convert_bytes_back w _ _ 5 _ _ l Tryd.underlying46 Tryd.underlying5 Tryd.underlying9 ?_
    intro j hj
    refine h.cells (g := g) rfl j _ ?_
    simp [Lib.byteCells, List.getElem?_eq_getElem hj]

theorem unq_iter {b : Nat} {u : Unq} {w : World} {k : Nat} {s : ByteArray} {pos : Nat} (h : IsUnq b u w) (hk : w.heap[k]? = some (.stringIter s pos)) (pos' : Nat) : IsUnq b u (w.iterAt k s pos') := by
  obtain ⟨a, c, hb, ho⟩ := h
  have hkb : b ≠ k := by intro e; rw [e, hk] at hb; cases hb
  refine ⟨a, c, (Lib.iterAt_other w k b s pos' hkb).trans hb, ho.1, ?_⟩
  rcases ho.2 with hn | ⟨g, cap, cur, fz, hv, hbg, hg, rest⟩
  · exact .inl hn
  · have hkg : g ≠ k := by intro e; rw [e, hk] at hg; cases hg
    exact .inr ⟨g, cap, cur, fz, hv, hbg, (Lib.iterAt_other w k g s pos' hkg).trans hg, rest⟩

def UnqAt (w : World) (s : ByteArray) (wr : World) (pos : Nat) (u : Unq) : Prop :=
  IsUnq w.heap.size u wr ∧ wr.heap[w.heap.size + 1]? = some (.stringIter s pos) ∧ Below w.heap.size w wr ∧ unqS (scan (s.data.toList.drop pos)) u pos = unquoteL s.data.toList ∧ pos ≤ s.size ∧ u.said.length + u.pend ≤ pos ∧ u.ok ∧ u.st ≠ 5

set_option maxHeartbeats 4000000 in
set_option maxRecDepth 1000000 in
theorem unquote_any (s : ByteArray) (w : World) (hs : s.size ≤ 140737488351232) :
    Calls Tryd.prog 21 #[.string s] w fun e w' => e = unqRes (unquoteL s.data.toList) ∧ Below w.heap.size w w' := by
  go_enter Tryd.func21, Tryd.ntmps21
  go_wp2
  go_loopw [] (fun wr => ∃ (pos : Nat) (u : Unq), UnqAt w s wr pos u) (fun wr => s.size - wr.iterPos (w.heap.size + 1))
  case atStart =>
    refine ⟨0, Unq.start, ⟨none, 0, ?_, World.ownsRowF_nil _ _ _ _⟩, ?_, ((Below.refl _ w).alloc (Nat.le_refl _) _).alloc (by simp) _, by simp [unquoteL], by omega, by simp [Unq.start, Unq.pend], ⟨by simp [Unq.start], by simp [Unq.start], by simp [Unq.start], by simp [Unq.start]⟩, by simp [Unq.start]⟩
    · refine (Below.heap_alloc _ _ w.heap.size (by simp)).trans ?_
      show (w.heap.push _)[w.heap.size]? = _
      rw [Array.getElem?_push_size]
      rfl
    · have := World.iter_heap (w.alloc (.cells #[.int .i64 0, .int .i32 0, .slice none 0 0, .int .i32 0, .int .i64 0] 59)) s 0
      simpa using this
  case round =>
    obtain ⟨pos, u, hI, hit, hbw, hun, hpos, hsl, hok, h5⟩ := hrel
    have hksz : w.heap.size + 1 < wr.heap.size := (Array.getElem?_eq_some_iff.1 hit).1
    have HUN : Hid (unqS (scan (s.data.toList.drop pos)) u pos = unquoteL s.data.toList) := hun
    clear hun
    by_cases hp : pos < s.size
    · have hnx : ∀ ty, (Instr.next (.pointer (some ⟨w.heap.size + 1, 0, none⟩)) true ty).run Tryd.prog wr = _ := fun ty => run_next_dec_at wr (w.heap.size + 1) s pos ty hit hp
      have hne := drop_ne s pos hp
      have hwd := (decL_width (s.data.toList.drop pos)).1
      have hwl := width_le s pos hp
      have hmx := decL_max (s.data.toList.drop pos)
      have hI2 := unq_iter hI hit (pos + (decL (s.data.toList.drop pos)).2)
      have hit2 := Lib.iterAt_heap wr (w.heap.size + 1) s pos (pos + (decL (s.data.toList.drop pos)).2) hit
      have hbw2 := Lib.below_iterAt hbw (k := w.heap.size + 1) (by omega) s (pos + (decL (s.data.toList.drop pos)).2)
      have hst := fun w1 => stray_any s pos w1 hp
      have hmeas : ∀ W : World, W.heap[w.heap.size + 1]? = some (.stringIter s (pos + (decL (s.data.toList.drop pos)).2)) → s.size - W.iterPos (w.heap.size + 1) < s.size - wr.iterPos (w.heap.size + 1) := by
        intro W hW
        simp only [World.iterPos, hW, hit]
        omega
      obtain ⟨W2, hW2⟩ : ∃ W2, W2 = wr.iterAt (w.heap.size + 1) s (pos + (decL (s.data.toList.drop pos)).2) := ⟨_, rfl⟩
      rw [← hW2] at hI2 hit2 hbw2
      have hnx2 : ∀ ty, (Instr.next (.pointer (some ⟨w.heap.size + 1, 0, none⟩)) true ty).run Tryd.prog wr = .ok (.tuple #[.bool true, .int .i64 pos, .int .i32 (decL (s.data.toList.drop pos)).1]) W2 := fun ty => by rw [hW2]; exact hnx ty
      clear hnx hW2
      by_cases hs1 : strayL (s.data.toList.drop pos) = true
      · rw [hs1] at hst
        have HR : Hid (unquoteL s.data.toList = none) := by rw [← HUN.out, unqS_stray _ hne hs1]; trivial
        clear hs1
        go_wp2_with (go_at_call 25; refine (hst _).mono ?_; rintro e w' ⟨rfl, rfl⟩)
        go_ret3
        exact ⟨by rw [HR.out]; rfl, hbw2⟩
      · have hs2 : strayL (s.data.toList.drop pos) = false := by simpa using hs1
        rw [hs2] at hst
        have htk := take_any w.heap.size u (decL (s.data.toList.drop pos)).1 W2 (by omega) (by omega) hI2 (by omega) hok h5
        cases hsu : stepU u (decL (s.data.toList.drop pos)).1 with
        | none =>
          have HR : Hid (unquoteL s.data.toList = none) := by rw [← HUN.out, unqS_none _ hne hs2 u pos hsu]; trivial
          rw [hsu] at htk
          clear hs1 hs2 hsu
          go_wp2_with (first | (go_at_call 25; refine (hst _).mono ?_; rintro e w' ⟨rfl, rfl⟩) | (go_at_call 33; refine htk.mono ?_; rintro e w' ⟨hb3, rfl⟩))
          go_ret3
          exact ⟨by rw [HR.out]; rfl, hbw2.trans hb3⟩
        | some u' =>
          have henc := enc_dec _ hne hs2
          have hok2 := stepU_ok u u' _ (decL (s.data.toList.drop pos)).2 hsu hok hwd (by rw [henc, List.length_take]; omega)
          clear henc
          rw [hsu] at htk
          by_cases h55 : u'.st = 5
          · have HR : Hid (unquoteL s.data.toList = some (u'.said, pos + 1)) := by rw [← HUN.out, unqS_end _ hne hs2 u u' pos hsu h55]; trivial
            clear hs1 hs2 hsu
            go_wp2_with (first | (go_at_call 25; refine (hst _).mono ?_; rintro e w' ⟨rfl, rfl⟩) | (go_at_call 33; refine htk.mono ?_))
            rintro e W3 ⟨hb3, rfl, hI3, hk3⟩
            obtain ⟨a, c, g0, g1, g2, g3, g4, go⟩ := hI3.cells
            have hcv := conv_row go
            rw [h55] at g0
            clear g1 g3 g4 go h55
            go_wp2_with fail
            go_ret3
            exact ⟨by rw [HR.out]; rfl, hbw2.trans hb3⟩
          · have HR : Hid (unqS (scan (s.data.toList.drop (pos + (decL (s.data.toList.drop pos)).2))) u' (pos + (decL (s.data.toList.drop pos)).2) = unquoteL s.data.toList) := by
              rw [← HUN.out, unqS_more _ hne hs2 u u' pos hsu h55, List.drop_drop]; trivial
            clear hs1 hs2 hsu
            have b5 : (u'.st == 5) = false := by simp; exact h55
            go_wp2_with (first | (go_at_call 25; refine (hst _).mono ?_; rintro e w' ⟨rfl, rfl⟩) | (go_at_call 33; refine htk.mono ?_))
            rintro e W3 ⟨hb3, rfl, hI3, hk3⟩
            obtain ⟨a, c, g0, g1, g2, g3, g4, go⟩ := hI3.cells
            have hit3 := hk3.iter hit2 (by omega)
            have hqa : UnqAt w s W3 _ u' := ⟨hI3, hit3, hbw2.trans hb3, HR.out, hwl, by omega, hok2.1, h55⟩
            clear g1 g2 g3 g4 go h55
            go_wp2_with fail
            go_roundw
            case rel => exact ⟨_, _, hqa⟩
            case measure => exact hmeas _ hit3
    · have hnx : ∀ ty, (Instr.next (.pointer (some ⟨w.heap.size + 1, 0, none⟩)) true ty).run Tryd.prog wr = _ := fun ty => Lib.run_next_end_at wr (w.heap.size + 1) s pos ty hit hp
      have HR : Hid (unquoteL s.data.toList = none) := by rw [← HUN.out, drop_end s pos hp]; trivial
      go_wp2
      go_ret3
      exact ⟨by rw [HR.out]; rfl, hbw⟩
end Go.Proofs.YtddacbobklmpfaaDoor
