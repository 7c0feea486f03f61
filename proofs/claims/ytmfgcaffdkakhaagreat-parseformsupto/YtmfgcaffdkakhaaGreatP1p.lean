/- Own text. Package parse: rules opened and closed, brackets ahead of an arrow, the line of an operator. -/
import Derived.Test.YtmfgcaffdkakhaaGreatM2
import Derived.Deep.LoopGhost
namespace Go.Proofs.YtmfgcaffdkakhaaGreat
open Go.RowKit
set_option linter.unusedVariables false
set_option linter.unusedSimpArgs false

/-- package parse's reader: how many rules are open. -/
def opE (o : Nat) : Ex := ⟨[.int .i64 (o : Int)], 52⟩
theorem Rd.cell2 {w : World} {P : Pl} {L : List Tok} {a o : Nat} (h : Rd w P L a (opE o)) : w.cell? ⟨P.R, 2, none⟩ = some (.int .i64 (o : Int)) ∧ w.frozen? ⟨P.R, 2, none⟩ = false := by
  simp [World.cell?, World.frozen?, h.r, opE]
/-- the reader opens or closes a rule. -/
theorem Rd.op {w : World} {P : Pl} {L : List Tok} {a o : Nat} (h : Rd w P L a (opE o)) (n : Nat) : Rd (w.setCell ⟨P.R, 2, none⟩ (.int .i64 (n : Int))) P L a (opE n) := by
  refine ⟨by simp [World.setCell, Array.getElem?_modify, h.r, opE], h.t, ⟨fun h0 => by simpa [World.setCell] using h.x.lt h0, fun i hi => ?_⟩, h.ne, h.le, h.small, h.cap⟩
  have hb : (w.setCell ⟨P.R, 2, none⟩ (.int .i64 (n : Int))).heap[P.bl]? = w.heap[P.bl]? := Below.heap_setCell _ _ _ _ (h.ne (by omega))
  have hc : ∀ j, (w.setCell ⟨P.R, 2, none⟩ (.int .i64 (n : Int))).cell? ⟨P.bl, j, none⟩ = w.cell? ⟨P.bl, j, none⟩ := fun j => World.cell?_of_block (a := ⟨P.bl, j, none⟩) hb
  rw [hc, hc, hc, hc]
  exact h.x.c i hi
set_option maxRecDepth 100000 in
set_option maxHeartbeats 4000000 in
theorem begin_any {w : World} {P : Pl} {L : List Tok} {a o : Nat} (h : Rd w P L a (opE o)) (ho : o ≤ 400) :
    Calls Tryz.prog 28 #[.pointer (some ⟨P.R, 0, none⟩)] w (AnsU P L (opE (o + 1)) w (beginR L a o)) := by
  obtain ⟨⟨c0, c1⟩, f1⟩ := h.cells
  obtain ⟨c2, f2⟩ := h.cell2
  have hle := h.le
  have C1 := rest_any h
  have CP := fun {W : World} (r : Rd W P L a (opE o)) => place_any r
  unfold beginR
  have hR := h
  by_cases hl : L.length ≤ a
  · rw [if_pos hl]
    unfold AnsU
    have hz : ((L.length - a : Nat) : Int) = 0 := by omega
    go_enter Tryz.func28, Tryz.ntmps28
    go_wp2_with (first
      | (go_at_call 57; refine C1.mono ?_; rintro e W1 ⟨⟨v, rfl, ad, rfl, had⟩, b1⟩; have r1 := hR.bel b1)
      | (go_at_call 58; refine (wrong_any r1).mono ?_; rintro e W2 ⟨rfl, b2⟩))
    exact ⟨rfl, rfl, (KeptR.of b1).trans (.of b2)⟩
  · rw [if_neg hl]
    have hz : ¬ ((L.length - a : Nat) : Int) = 0 := by omega
    have hz2 : (((L.length - a : Nat) : Int) == 0) = false := by simpa using hz
    by_cases h4 : 400 ≤ o
    · rw [if_pos h4]
      obtain rfl : o = 400 := by omega
      unfold AnsU
      go_enter Tryz.func28, Tryz.ntmps28
      go_wp2_with (first
        | (go_at_call 57; refine C1.mono ?_; rintro e W1 ⟨⟨v, rfl, ad, rfl, had⟩, b1⟩; have r1 := hR.bel b1; obtain ⟨d2, g2⟩ := r1.cell2)
        | (go_at_call 27; refine (CP r1).mono ?_; rintro e W2 ⟨rfl, rfl⟩))
      exact ⟨rfl, rfl, KeptR.of b1⟩
    · rw [if_neg h4]
      have hw : IntKind.i64.wrap ((o : Int) + 1) = (o : Int) + 1 := by rw [IntKind.wrap_i64]; omega
      have ho' : ¬ (o : Int) = 400 := by omega
      unfold AnsU
      go_enter Tryz.func28, Tryz.ntmps28
      go_wp2_with (go_at_call 57; refine C1.mono ?_; rintro e W1 ⟨⟨v, rfl, ad, rfl, had⟩, b1⟩; have r1 := hR.bel b1; obtain ⟨d2, g2⟩ := r1.cell2)
      go_end0
      exact ⟨rfl, by simpa using r1.op (o + 1), (KeptR.of b1).trans (KeptR.set P.R W1 2 _)⟩
set_option maxRecDepth 100000 in
set_option maxHeartbeats 4000000 in
theorem end_any {w : World} {P : Pl} {L : List Tok} {a o : Nat} (h : Rd w P L a (opE (o + 1))) (ho : o < 400) :
    Calls Tryz.prog 32 #[.pointer (some ⟨P.R, 0, none⟩)] w fun e w' => e = .returned (.tuple #[]) ∧ Rd w' P L a (opE o) ∧ KeptR P.R w w' := by
  obtain ⟨c2, f2⟩ := h.cell2
  have hw : IntKind.i64.wrap (((o + 1 : Nat) : Int) - 1) = (o : Int) := by rw [IntKind.wrap_i64]; omega
  have hw2 : ((o + 1 : Nat) : Int) - 1 = (o : Int) := by omega
  go_enter Tryz.func32, Tryz.ntmps32
  go_wp2
  go_end0
  refine ⟨rfl, ?_, KeptR.set P.R w 2 _⟩
  first
    | exact h.op o
    | simpa using h.op o
set_option maxRecDepth 100000 in
set_option maxHeartbeats 4000000 in
theorem opened_any (x : Tok) (w : World) : Calls Tryz.prog 103 #[x.v] w fun e w' => e = .returned (.int .i64 (openI x)) ∧ Below w.heap.size w w' := by
  obtain ⟨k, t, n, p⟩ := x
  have bel_n : ∀ o, Below w.heap.size w (w.alloc o) := fun o => (Below.refl _ _).alloc (Nat.le_refl _) o
  obtain ⟨z, hz⟩ : ∃ z, openI ⟨k, t, n, p⟩ = z := ⟨_, rfl⟩
  rw [hz]
  have HZ : Hid (z = if k = 5 then (if t.toList = [40] ∨ t.toList = [91] ∨ t.toList = [123] then 1 else if t.toList = [41] ∨ t.toList = [93] ∨ t.toList = [125] then -1 else 0) else 0) := hz.symm
  clear hz
  unfold Tok.v
  by_cases hk : k = 5
  · subst hk
    cases h1 : (t.toList == [40]) with
    | true =>
      obtain rfl : z = 1 := by rw [HZ.out, eq_of_beq h1]; rfl
      clear HZ
      go_enter Tryz.func103, Tryz.ntmps103
      go_wp2
      go_ret
      exact ⟨rfl, bel_n _⟩
    | false =>
      cases h2 : (t.toList == [91]) with
      | true =>
        obtain rfl : z = 1 := by rw [HZ.out, eq_of_beq h2]; rfl
        clear HZ
        go_enter Tryz.func103, Tryz.ntmps103
        go_wp2
        go_ret
        exact ⟨rfl, bel_n _⟩
      | false =>
        cases h3 : (t.toList == [123]) with
        | true =>
          obtain rfl : z = 1 := by rw [HZ.out, eq_of_beq h3]; rfl
          clear HZ
          go_enter Tryz.func103, Tryz.ntmps103
          go_wp2
          go_ret
          exact ⟨rfl, bel_n _⟩
        | false =>
          cases h4 : (t.toList == [41]) with
          | true =>
            obtain rfl : z = -1 := by rw [HZ.out, eq_of_beq h4]; rfl
            clear HZ
            go_enter Tryz.func103, Tryz.ntmps103
            go_wp2
            go_ret
            exact ⟨rfl, bel_n _⟩
          | false =>
            cases h5 : (t.toList == [93]) with
            | true =>
              obtain rfl : z = -1 := by rw [HZ.out, eq_of_beq h5]; rfl
              clear HZ
              go_enter Tryz.func103, Tryz.ntmps103
              go_wp2
              go_ret
              exact ⟨rfl, bel_n _⟩
            | false =>
              cases h6 : (t.toList == [125]) with
              | true =>
                obtain rfl : z = -1 := by rw [HZ.out, eq_of_beq h6]; rfl
                clear HZ
                go_enter Tryz.func103, Tryz.ntmps103
                go_wp2
                go_ret
                exact ⟨rfl, bel_n _⟩
              | false =>
                have g : ∀ l : List UInt8, (t.toList == l) = false → ¬ t.toList = l := fun l h e => by rw [e] at h; simp at h
                obtain rfl : z = 0 := by rw [HZ.out, if_pos rfl, if_neg (by rintro (e | e | e); exact g _ h1 e; exact g _ h2 e; exact g _ h3 e), if_neg (by rintro (e | e | e); exact g _ h4 e; exact g _ h5 e; exact g _ h6 e)]
                clear HZ g
                go_enter Tryz.func103, Tryz.ntmps103
                go_wp2
                go_ret
                exact ⟨rfl, bel_n _⟩
  · obtain rfl : z = 0 := by rw [HZ.out, if_neg hk]
    clear HZ
    go_enter Tryz.func103, Tryz.ntmps103
    go_wp2
    go_ret
    exact ⟨rfl, bel_n _⟩
set_option maxRecDepth 100000 in
set_option maxHeartbeats 8000000 in
theorem lineOf_any (x : Tok) (w : World) : Calls Tryz.prog 84 #[x.v] w fun e w' => e = .returned (.int .i64 (lineI x : Nat)) ∧ Below w.heap.size w w' := by
  obtain ⟨k, t, n, p⟩ := x
  have bel_n : ∀ o, Below w.heap.size w (w.alloc o) := fun o => (Below.refl _ _).alloc (Nat.le_refl _) o
  obtain ⟨z, hz⟩ : ∃ z, lineI ⟨k, t, n, p⟩ = z := ⟨_, rfl⟩
  rw [hz]
  have HZ : Hid (z = if k = 5 then
    (if t.toList = [124, 124] then 1 else if t.toList = [38, 38] then 2 else if t.toList = [61, 61, 61] ∨ t.toList = [33, 61, 61] then 3
    else if t.toList = [60] ∨ t.toList = [60, 61] ∨ t.toList = [62] ∨ t.toList = [62, 61] then 4 else if t.toList = [43] ∨ t.toList = [45] then 5
    else if t.toList = [42] ∨ t.toList = [47] ∨ t.toList = [37] then 6 else 0) else 0) := hz.symm
  clear hz
  unfold Tok.v
  by_cases hk : k = 5
  · subst hk
    cases h1 : (t.toList == [124, 124]) with
    | true =>
      obtain rfl : z = 1 := by rw [HZ.out, eq_of_beq h1]; rfl
      clear HZ
      go_enter Tryz.func84, Tryz.ntmps84
      go_wp2
      go_ret
      exact ⟨rfl, bel_n _⟩
    | false =>
      cases h2 : (t.toList == [38, 38]) with
      | true =>
        obtain rfl : z = 2 := by rw [HZ.out, eq_of_beq h2]; rfl
        clear HZ
        go_enter Tryz.func84, Tryz.ntmps84
        go_wp2
        go_ret
        exact ⟨rfl, bel_n _⟩
      | false =>
        cases h3 : (t.toList == [61, 61, 61]) with
        | true =>
          obtain rfl : z = 3 := by rw [HZ.out, eq_of_beq h3]; rfl
          clear HZ
          go_enter Tryz.func84, Tryz.ntmps84
          go_wp2
          go_ret
          exact ⟨rfl, bel_n _⟩
        | false =>
          cases h4 : (t.toList == [33, 61, 61]) with
          | true =>
            obtain rfl : z = 3 := by rw [HZ.out, eq_of_beq h4]; rfl
            clear HZ
            go_enter Tryz.func84, Tryz.ntmps84
            go_wp2
            go_ret
            exact ⟨rfl, bel_n _⟩
          | false =>
            cases h5 : (t.toList == [60]) with
            | true =>
              obtain rfl : z = 4 := by rw [HZ.out, eq_of_beq h5]; rfl
              clear HZ
              go_enter Tryz.func84, Tryz.ntmps84
              go_wp2
              go_ret
              exact ⟨rfl, bel_n _⟩
            | false =>
              cases h6 : (t.toList == [60, 61]) with
              | true =>
                obtain rfl : z = 4 := by rw [HZ.out, eq_of_beq h6]; rfl
                clear HZ
                go_enter Tryz.func84, Tryz.ntmps84
                go_wp2
                go_ret
                exact ⟨rfl, bel_n _⟩
              | false =>
                cases h7 : (t.toList == [62]) with
                | true =>
                  obtain rfl : z = 4 := by rw [HZ.out, eq_of_beq h7]; rfl
                  clear HZ
                  go_enter Tryz.func84, Tryz.ntmps84
                  go_wp2
                  go_ret
                  exact ⟨rfl, bel_n _⟩
                | false =>
                  cases h8 : (t.toList == [62, 61]) with
                  | true =>
                    obtain rfl : z = 4 := by rw [HZ.out, eq_of_beq h8]; rfl
                    clear HZ
                    go_enter Tryz.func84, Tryz.ntmps84
                    go_wp2
                    go_ret
                    exact ⟨rfl, bel_n _⟩
                  | false =>
                    cases h9 : (t.toList == [43]) with
                    | true =>
                      obtain rfl : z = 5 := by rw [HZ.out, eq_of_beq h9]; rfl
                      clear HZ
                      go_enter Tryz.func84, Tryz.ntmps84
                      go_wp2
                      go_ret
                      exact ⟨rfl, bel_n _⟩
                    | false =>
                      cases h10 : (t.toList == [45]) with
                      | true =>
                        obtain rfl : z = 5 := by rw [HZ.out, eq_of_beq h10]; rfl
                        clear HZ
                        go_enter Tryz.func84, Tryz.ntmps84
                        go_wp2
                        go_ret
                        exact ⟨rfl, bel_n _⟩
                      | false =>
                        cases h11 : (t.toList == [42]) with
                        | true =>
                          obtain rfl : z = 6 := by rw [HZ.out, eq_of_beq h11]; rfl
                          clear HZ
                          go_enter Tryz.func84, Tryz.ntmps84
                          go_wp2
                          go_ret
                          exact ⟨rfl, bel_n _⟩
                        | false =>
                          cases h12 : (t.toList == [47]) with
                          | true =>
                            obtain rfl : z = 6 := by rw [HZ.out, eq_of_beq h12]; rfl
                            clear HZ
                            go_enter Tryz.func84, Tryz.ntmps84
                            go_wp2
                            go_ret
                            exact ⟨rfl, bel_n _⟩
                          | false =>
                            cases h13 : (t.toList == [37]) with
                            | true =>
                              obtain rfl : z = 6 := by rw [HZ.out, eq_of_beq h13]; rfl
                              clear HZ
                              go_enter Tryz.func84, Tryz.ntmps84
                              go_wp2
                              go_ret
                              exact ⟨rfl, bel_n _⟩
                            | false =>
                              have g : ∀ l : List UInt8, (t.toList == l) = false → ¬ t.toList = l := fun l h e => by rw [e] at h; simp at h
                              obtain rfl : z = 0 := by rw [HZ.out, if_pos rfl, if_neg (g _ h1), if_neg (g _ h2), if_neg (by rintro (e | e); exact g _ h3 e; exact g _ h4 e), if_neg (by rintro (e | e | e | e); exact g _ h5 e; exact g _ h6 e; exact g _ h7 e; exact g _ h8 e), if_neg (by rintro (e | e); exact g _ h9 e; exact g _ h10 e), if_neg (by rintro (e | e | e); exact g _ h11 e; exact g _ h12 e; exact g _ h13 e)]
                              clear HZ g
                              go_enter Tryz.func84, Tryz.ntmps84
                              go_wp2
                              go_ret
                              exact ⟨rfl, bel_n _⟩
  · obtain rfl : z = 0 := by rw [HZ.out, if_neg hk]
    clear HZ
    go_enter Tryz.func84, Tryz.ntmps84
    go_wp2
    go_ret
    exact ⟨rfl, bel_n _⟩
theorem rb {b c : Bool} (h : b = c) : Ending.returned (Value.bool b) = Ending.returned (Value.bool c) := by rw [h]
theorem openI_le (x : Tok) : -1 ≤ openI x ∧ openI x ≤ 1 := by
  unfold openI
  repeat' split
  all_goals omega
theorem arrL_cons (L : List Tok) {i : Nat} (h : i < L.length) (d : Int) : arrL L (L.drop i) i d = if d + openI L[i] = 0 then isS L (i + 1) sAr else arrL L (L.drop (i + 1)) (i + 1) (d + openI L[i]) := by
  rw [List.drop_eq_getElem_cons h, arrL]
end Go.Proofs.YtmfgcaffdkakhaaGreat
