/- Own text. The program's Check and Order. -/
import Derived.Test.YtbliaamckldncaaOdM4
namespace Go.Proofs.Ytbliaamckldncaa
open Go.RowKit Gph
set_option linter.unusedVariables false
set_option linter.unusedSimpArgs false

def isPl (n : Nat) (y : Int) : Bool := decide (0 ≤ y) && decide (y < n)
theorem isPlace_any {w : World} {ad : Option Addr} {n c : Nat} {y : Int} (hn : n ≤ 1048576) : Calls Try.prog 20 #[.slice ad n c, .int .i64 y] w fun e w' => e = .returned (.bool (isPl n y)) ∧ w' = w := by
  obtain ⟨r, hr⟩ : ∃ r, isPl n y = r := ⟨_, rfl⟩
  have HR : Hid (isPl n y = r) := hr
  rw [hr]
  clear hr
  by_cases h0 : 0 ≤ y
  · by_cases h1 : y < n
    · obtain rfl : true = r := by rw [← HR.out, isPl]; simp [h0, h1]
      go_enter Try.func20, Try.ntmps20
      go_wp2
      go_ret
      exact ⟨rfl, rfl⟩
    · obtain rfl : false = r := by rw [← HR.out, isPl]; simp [h1]
      go_enter Try.func20, Try.ntmps20
      go_wp2
      go_ret
      exact ⟨rfl, rfl⟩
  · obtain rfl : false = r := by rw [← HR.out, isPl]; simp [h0]
    go_enter Try.func20, Try.ntmps20
    go_wp2
    go_ret
    exact ⟨rfl, rfl⟩
set_option maxRecDepth 100000 in
set_option maxHeartbeats 4000000 in
theorem check_any {w : World} {B : Nat} {v : Value} {E : List (List Int)} (h : EAt w B v E) (hB : B ≤ w.heap.size) (hl : E.length ≤ 1048576) (hk : ∀ l ∈ E, l.length ≤ 1048576) :
    Calls Try.prog 9 #[v] w fun e w' => e = .returned (.int .i64 (chkN E)) ∧ Below w.heap.size w w' := by
  obtain ⟨ad, c, rfl⟩ := h.op
  obtain ⟨res, hres⟩ : ∃ r, chkN E = r := ⟨_, rfl⟩
  have HR : Hid (chkN E = res) := hres
  rw [hres]
  clear hres
  go_enter Try.func9, Try.ntmps9
  go_wp2
  go_loopw [4, 9] (fun rv i wr => ∃ k : Nat, i = .int .i64 (k : Nat) ∧ k ≤ E.length ∧ Below w.heap.size w wr ∧ Hid ((E.take k).all (fun l => l.all fun y => decide (0 ≤ y) && decide (y < E.length)) = true)) (fun _ i _ => E.length - (intOf i).toNat)
  case atStart => exact ⟨0, rfl, by omega, Below.refl _ w, by simp [Hid]⟩
  case round =>
    obtain ⟨k, rfl, hkl, bel, hH⟩ := hrel
    by_cases hlt : k < E.length
    · obtain ⟨b, o, c', f, e, hb, hf⟩ := (h.bel (bel.mono hB)).cl (by omega)
      obtain ⟨rfl, rfl⟩ : ad = some ⟨b, o, none⟩ ∧ c = c' := by cases e; exact ⟨rfl, rfl⟩
      obtain ⟨f1, f2⟩ := hf k hlt
      have hkE := hk E[k] (List.getElem_mem hlt)
      have HS : Hid ((E.take (k + 1)).all (fun l => l.all fun y => decide (0 ≤ y) && decide (y < E.length)) = ((E.take k).all (fun l => l.all fun y => decide (0 ≤ y) && decide (y < E.length)) && E[k].all fun y => decide (0 ≤ y) && decide (y < E.length))) := chk_row hlt
      have HN : Hid (chk E = true → E[k].all (fun y => decide (0 ≤ y) && decide (y < E.length)) = true) := fun hc => List.all_eq_true.1 hc _ (List.getElem_mem hlt)
      clear e hf
      generalize E[k] = l at *
      obtain ⟨ad', c'', e⟩ := f2.op
      rw [e] at f1 f2
      clear e
      go_wp2
      go_loopw [6, 15] (fun tv j wq => ∃ m : Nat, j = .int .i64 (m : Nat) ∧ m ≤ l.length ∧ wq = wr ∧ Hid ((l.take m).all (fun y => decide (0 ≤ y) && decide (y < E.length)) = true)) (fun _ j _ => l.length - (intOf j).toNat)
      case atStart => exact ⟨0, rfl, by omega, rfl, by simp [Hid]⟩
      case round =>
        obtain ⟨m, rfl, hml, rfl, hM⟩ := hrel
        by_cases hmt : m < l.length
        · obtain ⟨b', o', c3, e, hb', hg⟩ := f2.cl (by omega)
          obtain ⟨rfl, rfl⟩ : ad' = some ⟨b', o', none⟩ ∧ c'' = c3 := by cases e; exact ⟨rfl, rfl⟩
          have g1 := hg m hmt
          have HM : Hid ((l.take (m + 1)).all (fun y => decide (0 ≤ y) && decide (y < E.length)) = ((l.take m).all (fun y => decide (0 ≤ y) && decide (y < E.length)) && (decide (0 ≤ l[m]) && decide (l[m] < E.length)))) := by show _ = _; rw [List.take_succ_eq_append_getElem hmt, List.all_append]; simp
          have HL : Hid (l.all (fun y => decide (0 ≤ y) && decide (y < E.length)) = true → 0 ≤ l[m] ∧ l[m] < E.length) := fun h => by have := List.all_eq_true.1 h _ (List.getElem_mem hmt); simpa using this
          clear e hg
          generalize l[m] = y at *
          have C := isPlace_any (w := wr) (ad := some ⟨b, o, none⟩) (c := c) (y := y) hl
          cases q : isPl E.length y with
          | false =>
            obtain rfl : (110 : Int) = res := by rw [← HR.out, chkN, if_neg (fun hc => by have := HL.out (HN.out hc); unfold isPl at q; simp at q; omega)]
            rw [q] at C
            clear q
            go_wp2_with (go_at_call 20; refine C.mono ?_; rintro e W ⟨rfl, rfl⟩)
            go_ret
            exact ⟨rfl, bel⟩
          | true =>
            rw [q] at C
            have HQ : Hid ((decide (0 ≤ y) && decide (y < E.length)) = true) := q
            clear q
            go_wp2_with (go_at_call 20; refine C.mono ?_; rintro e W ⟨rfl, rfl⟩)
            go_roundw
            case rel => exact ⟨m + 1, by simp, by omega, by first | rfl | trivial, by show _ = _; rw [HM.out, hM.out, HQ.out]; rfl⟩
            case measure => simp [intOf]; omega
        · have e : l.take m = l := List.take_of_length_le (by omega)
          rw [e] at hM
          go_wp2
          go_roundw
          case rel => exact ⟨k + 1, by simp, by omega, bel, by show _ = _; rw [HS.out, hH.out, hM.out]; rfl⟩
          case measure => simp [intOf]; omega
    · have e : E.take k = E := List.take_of_length_le (by omega)
      rw [e] at hH
      obtain rfl : (0 : Int) = res := by rw [← HR.out, chkN, if_pos (show chk E = true from hH.out)]
      go_wp2
      go_ret
      exact ⟨rfl, bel⟩
theorem ed_len' {E : List (List Int)} (hk : ∀ l ∈ E, l.length ≤ 1048576) (x : Nat) : (ed (nE E) x).length ≤ 1048576 := by
  unfold ed
  cases h : (nE E)[x]? with
  | none => simp
  | some l =>
    obtain ⟨l', hl', rfl⟩ := List.mem_map.1 (List.mem_of_getElem? h)
    simpa using hk l' hl'
set_option maxRecDepth 100000 in
set_option maxHeartbeats 4000000 in
theorem order_any (w : World) (v : Value) (E : List (List Int)) (root : Int) (h : EAt w w.heap.size v E) (hl : E.length ≤ 1048576) (hk : ∀ l ∈ E, l.length ≤ 1048576) :
    Calls Try.prog 16 #[v, .int .i64 root] w fun e w' => ∃ vo, e = .returned vo ∧ Tl w' w.heap.size vo (ordL E root) ∧ Below w.heap.size w w' := by
  have CK := check_any h (Nat.le_refl _) hl hk
  obtain ⟨ad, c, rfl⟩ := h.op
  have CP := isPlace_any (w := w) (ad := ad) (c := c) (y := root) hl
  obtain ⟨res, hres⟩ : ∃ r, ordL E root = r := ⟨_, rfl⟩
  have HR : Hid (ordL E root = res) := hres
  rw [hres]
  clear hres
  cases q : isPl E.length root with
  | false =>
    rw [q] at CP
    obtain rfl : [] = res := by rw [← HR.out, ordL, if_neg]; unfold isPl at q; simp at q; omega
    clear q
    go_enter Try.func16, Try.ntmps16
    go_wp2_with (first
      | (go_at_call 20; refine CP.mono ?_; rintro e W1 ⟨rfl, rfl⟩))
    go_ret
    exact ⟨_, rfl, World.ownsRow_nil _ _ _ _, Below.refl _ _⟩
  | true =>
    rw [q] at CP
    have hx : 0 ≤ root ∧ root < E.length := by unfold isPl at q; simpa using q
    clear q
    by_cases hc : chk E = true
    · have ec : chkN E = 0 := by unfold chkN; rw [if_pos hc]
      rw [ec] at CK
      clear ec
      obtain ⟨x, rfl⟩ : ∃ x : Nat, root = x := ⟨root.toNat, by omega⟩
      have hxE : x < E.length := by omega
      obtain ⟨hG, hok⟩ := graph_of hc
      have eR : (dfs (nE E) E.length x (List.replicate E.length false) []).2 = res := by rw [← HR.out, ordL, if_pos ⟨hc, by omega, hx.2⟩]; rfl
      have CN := fun W : World => newWalk_any (n := E.length) hl (w := W) (ad := ad) (c := c)
      have hkk := fun x => Nat.le_trans (ed_len' hk x) (by decide : 1048576 ≤ 1099511627776)
      have hEG := h
      rw [hG, toI_len] at hEG
      have hGl : (nE E).length = E.length := nE_len E
      have HC : Hid (∀ (W : World) (q ge gl : Nat), Below w.heap.size w W → ∀ lo, w.heap.size ≤ lo → lo ≤ W.heap.size → Wk W lo q (.slice ad E.length c) ge gl E.length 0 (List.replicate E.length false) (List.replicate E.length 0) [] [] (.slice none 0 0) (.slice none 0 0) → Calls Try.prog 25 #[.pointer (some ⟨q, 0, none⟩), .int .i64 (x : Nat)] W fun e w' => ∃ (at' : Int) (L' : List Nat) (S' : List Bool) (vo' vt' : Value), e = .returned (.tuple #[]) ∧ Wk w' lo q (.slice ad E.length c) ge gl E.length at' S' L' [] res vo' vt' ∧ Below lo W w') := fun W q ge gl bl lo h1 h2 hw => by
        have C := from_any hok (by rw [hGl]; exact hl) hkk (r := x) (by rw [hGl]; exact hw) ((hEG.bel bl).mono h1) h2 (by rw [← hGl]; exact Wst.new _) (by rw [hGl]; exact hxE) (not_on_rep _ _)
        rw [hGl, eR] at C
        refine C.mono ?_
        rintro e w' ⟨L', at', vo', vt', rfl, k1, k2, k3⟩
        exact ⟨at', L', _, vo', vt', rfl, k1, k3⟩
      clear hG hok eR hkk hEG hGl hc
      go_enter Try.func16, Try.ntmps16
      go_wp2_with (first
        | (go_at_call 20; refine CP.mono ?_; rintro e W0 ⟨rfl, rfl⟩)
        | (go_at_call 9; refine CK.mono ?_; rintro e W1 ⟨rfl, b1⟩)
        | (go_at_call 24; refine (CN W1).mono ?_; rintro e W2 ⟨q, ge, gl, rfl, k2, b2⟩; have B2 := b1.trans (b2.mono b1.size); have s1 := b1.size; have s2 := b2.size)
        | (go_at_call 25; refine (HC.out W2 q ge gl B2 W1.heap.size s1 s2 k2).mono ?_; rintro e W3 ⟨at', L', S', vo', vt', rfl, k3, b3⟩; have c5 := k3.s.cells.2.2.2.2.2.1))
      go_ret
      exact ⟨_, rfl, row_base k3.ht s1, B2.trans (b3.mono s1)⟩
    · have ec : chkN E = 110 := by unfold chkN; rw [if_neg hc]
      rw [ec] at CK
      clear ec
      obtain rfl : [] = res := by rw [← HR.out, ordL, if_neg (fun h => hc h.1)]
      clear hc
      go_enter Try.func16, Try.ntmps16
      go_wp2_with (first
        | (go_at_call 20; refine CP.mono ?_; rintro e W0 ⟨rfl, rfl⟩)
        | (go_at_call 9; refine CK.mono ?_; rintro e W1 ⟨rfl, b1⟩))
      go_ret
      exact ⟨_, rfl, World.ownsRow_nil _ _ _ _, b1⟩
end Go.Proofs.Ytbliaamckldncaa
