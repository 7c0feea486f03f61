/- Own text. The walk over all places of a tree. -/
import Derived.Test.YtggahoefbcnaiaaDoorT4
import Derived.RangeFuncNested
import Derived.RangeFuncBound
import Derived.RangeFuncCalls
import Derived.RangeFuncLeaves
import Derived.Shelf.Abstract
import Derived.Shelf.RegionOpen
import Derived.OwnWalkIn
import Derived.TacticsInMore
import Derived.LoopNIn
import Derived.LoopIn
import Derived.Laws.EntriesVeiled
namespace Go.Proofs.YtggahoefbcnaiaaDoor
open Go.RowKit
set_option linter.unusedVariables false
attribute [local go_sem] Oper.semAt_some

/-- in the cells from ⟨b, o⟩ on lies the tree x, its lists in blocks of T. -/
def NAt (w : World) (T : Nat → Prop) (b o : Nat) (x : Nd) : Prop := ∃ v, T b ∧ Four w b o x v ∧ LAt w T v x.ks
theorem NAt.keep {w w' : World} {T : Nat → Prop} {b o : Nat} {x : Nd} (h : NAt w T b o x) (hs : w.heap.size ≤ w'.heap.size) (e : ∀ c, T c → w'.heap[c]? = w.heap[c]?) : NAt w' T b o x := by
  obtain ⟨v, h1, h2, h3⟩ := h
  exact ⟨v, h1, h2.of_block (e b h1), h3.keep hs (fun c hc _ => e c hc)⟩

/-- the place k of the tree x at ⟨b, o⟩ is y, at ⟨b', o'⟩. -/
inductive Pl (w : World) : Nat → Nat → Nd → Nat → Nat → Nat → Nd → Prop
  | here (b o : Nat) (x : Nd) : Pl w b o x 0 b o x
  | kid (b o : Nat) (x : Nd) (bl ol c i : Nat) (hi : i < x.ks.length) (hc : w.cell? ⟨b, o + 3, none⟩ = some (.slice (some ⟨bl, ol, none⟩) x.ks.length c)) (k b' o' : Nat) (y : Nd) (h : Pl w bl (ol + i * 4) x.ks[i] k b' o' y) : Pl w b o x (1 + sizes (x.ks.take i) + k) b' o' y
theorem Pl.snoc {w : World} {b o : Nat} {x : Nd} {k b' o' : Nat} {y : Nd} (h : Pl w b o x k b' o' y) {bl ol c i : Nat} (hi : i < y.ks.length) (hc : w.cell? ⟨b', o' + 3, none⟩ = some (.slice (some ⟨bl, ol, none⟩) y.ks.length c)) :
    Pl w b o x (k + (1 + sizes (y.ks.take i))) bl (ol + i * 4) y.ks[i] := by
  induction h with
  | here b o x =>
    have := Pl.kid b o x bl ol c i hi hc 0 _ _ _ (.here _ _ _)
    simpa using this
  | kid b o x bl' ol' c' i' hi' hc' k b' o' y h ih =>
    rw [Nat.add_assoc]
    exact .kid b o x bl' ol' c' i' hi' hc' _ _ _ _ (ih hi hc)
theorem flats_get : ∀ (l : List Nd) (i k : Nat) (hi : i < l.length), k < l[i].size → (flats l)[sizes (l.take i) + k]? = l[i].flat[k]?
  | x :: l, 0, k, hi, hk => by
    rw [flats_cons, List.take_zero, sizes_nil, Nat.zero_add]
    simp only [List.getElem_cons_zero] at hk ⊢
    exact List.getElem?_append_left (by rw [x.flat_len]; exact hk)
  | x :: l, i + 1, k, hi, hk => by
    rw [flats_cons, List.take_succ_cons, sizes_cons]
    simp only [List.getElem_cons_succ] at hk ⊢
    rw [List.getElem?_append_right (by rw [x.flat_len]; omega), x.flat_len, show x.size + sizes (l.take i) + k - x.size = sizes (l.take i) + k by omega]
    exact flats_get l i k (by simpa using hi) hk
theorem Pl.flat {w : World} {b o : Nat} {x : Nd} {k b' o' : Nat} {y : Nd} (h : Pl w b o x k b' o' y) : x.flat[k]? = some y := by
  induction h with
  | here b o x => rw [x.flat_eq]; rfl
  | kid b o x bl ol c i hi hc k b' o' y h ih =>
    have hk : k < x.ks[i].size := by rw [← x.ks[i].flat_len]; exact (List.getElem?_eq_some_iff.1 ih).1
    rw [x.flat_eq, show 1 + sizes (x.ks.take i) + k = (sizes (x.ks.take i) + k) + 1 by omega, List.getElem?_cons_succ, flats_get _ _ _ hi hk]
    exact ih

/-- the boxes of a walk: yield, the place, the walk itself. -/
structure WB (W : World) (l Y A K k : Nat) : Prop where
  y : ∃ t, W.heap[Y]? = some (.cells #[.func (.yield l) #[] #[]] t (0, 0))
  a : ∃ t, W.heap[A]? = some (.cells #[.int .i64 (k : Nat)] t (0, 0))
  k : ∃ t, W.heap[K]? = some (.cells #[.func (.func 60) #[] #[.pointer (some ⟨Y, 0, none⟩), .pointer (some ⟨A, 0, none⟩), .pointer (some ⟨K, 0, none⟩)]] t (0, 0))
theorem box1 {w : World} {b : Nat} {p : Value} (h : ∃ t, w.heap[b]? = some (.cells #[p] t (0, 0))) : w.cell? ⟨b, 0, none⟩ = some p ∧ w.frozen? ⟨b, 0, none⟩ = false := by
  obtain ⟨t, h⟩ := h
  simp [World.cell?, World.frozen?, h]
theorem box1_set {w : World} {b : Nat} {p : Value} (u : Value) (h : ∃ t, w.heap[b]? = some (.cells #[p] t (0, 0))) : ∃ t, (w.setCell ⟨b, 0, none⟩ u).heap[b]? = some (.cells #[u] t (0, 0)) := by
  obtain ⟨t, h⟩ := h
  exact ⟨t, by simp [World.setCell, Array.getElem?_modify, h]⟩
theorem box1_of {w w' : World} {b : Nat} {p : Value} (h : ∃ t, w.heap[b]? = some (.cells #[p] t (0, 0))) (e : w'.heap[b]? = w.heap[b]?) : ∃ t, w'.heap[b]? = some (.cells #[p] t (0, 0)) := by
  obtain ⟨t, h⟩ := h
  exact ⟨t, e.trans h⟩
theorem box1_lt {w : World} {b : Nat} {p : Value} (h : ∃ t, w.heap[b]? = some (.cells #[p] t (0, 0))) : b < w.heap.size := by
  obtain ⟨t, h⟩ := h
  exact (Array.getElem?_eq_some_iff.1 h).1

/-- what a round of a loop over all places owes: it goes on, and keeps the tree and all from m on; or it leaves. -/
def Rnd (w0 : World) (T : Nat → Prop) (b0 o0 : Nat) (x0 : Nd) (l m : Nat) (J Jx : Nat → World → Prop) : Prop :=
  ∀ k b o y W, Pl w0 b0 o0 x0 k b o y → NAt w0 T b o y → (∀ c, T c → W.heap[c]? = w0.heap[c]?) → m ≤ W.heap.size → J k W →
    YieldAt Fence.wide 0 Tryd.prog l #[.int .i64 (k : Nat), .pointer (some ⟨b, o, none⟩)] W fun e W' =>
      (e = .returned (.bool true) ∧ J (k + 1) W' ∧ W.heap.size ≤ W'.heap.size ∧ ∀ c, c < W.heap.size → (T c ∨ m ≤ c) → W'.heap[c]? = W.heap[c]?) ∨ (e = .returned (.bool false) ∧ Jx k W')

theorem room_none (k : Nat) : Fence.wide.room k := room_wide k
theorem yield_any {P : Program} {l : Nat} {args : Array Value} {W : World} {R : Ending → World → Prop} {m : Nat} (m' : Nat) (h : YieldAt Fence.wide m P l args W R) : YieldAt Fence.wide m' P l args W R := by
  obtain ⟨fn, tmps, assign, body, hy, hR⟩ := h
  exact ⟨fn, tmps, assign, body, hy, hR.1, fun c cs _ => hR.2 c cs (room_wide _)⟩

set_option maxRecDepth 100000 in
set_option maxHeartbeats 8000000 in
theorem walk_in (w0 : World) (T : Nat → Prop) (b0 o0 : Nat) (x0 : Nd) (l Y A K m : Nat) (J Jx : Nat → World → Prop) (hYm : m ≤ Y) (hAm : m ≤ A) (hKm : m ≤ K) (hYA : Y ≠ A) (hKA : K ≠ A) (hTm : ∀ b, T b → b < m)
    (hJ : ∀ k X Z, J k X → Below m X Z → J k Z) (hY : Rnd w0 T b0 o0 x0 l m J Jx) (x : Nd) :
    ∀ (k b o : Nat) (W : World), Pl w0 b0 o0 x0 k b o x → NAt w0 T b o x → (∀ c, T c → W.heap[c]? = w0.heap[c]?) → w0.heap.size ≤ W.heap.size → m ≤ W.heap.size → WB W l Y A K k → J k W → k + x.size ≤ 4194304 →
    Calls Tryd.prog 60 #[.pointer (some ⟨b, o, none⟩), .pointer (some ⟨Y, 0, none⟩), .pointer (some ⟨A, 0, none⟩), .pointer (some ⟨K, 0, none⟩)] W fun e W' =>
      ∃ r : Bool, e = .returned (.bool r) ∧ (r = true → J (k + x.size) W' ∧ (∀ c, T c → W'.heap[c]? = w0.heap[c]?) ∧ W.heap.size ≤ W'.heap.size ∧ WB W' l Y A K (k + x.size)) ∧ (r = false → ∃ k', Jx k' W') := by
  induction x using Nd.ind with
  | h x ih =>
    intro k b o W hP hN hag hsz hmW hB h0 hk
    have zs := x.size_eq
    have lx := sizes_len x.ks
    have hN0 := hN
    obtain ⟨v, hTb, h4, hl⟩ := hN
    obtain ⟨ax, cx, bx, ox, fx, rfl, px, qx, rx⟩ := hl.op
    have hbm := hTm b hTb
    have lx2 : x.ks.length ≤ 4194304 := by omega
    have tot := take_sizes_le x.ks
    have kidcell : ∀ W' : World, (∀ c, T c → W'.heap[c]? = w0.heap[c]?) → W'.cell? ⟨b, o + 3, none⟩ = some (.slice ax x.ks.length cx) := fun W' e => (World.cell?_of_block (a := ⟨b, o + 3, none⟩) (e b hTb)).trans h4.2.2.2
    obtain ⟨fn, tmps, assign, body, hy, hR⟩ := yield_any 9 (hY k b o x W hP hN0 hag hmW h0)
    obtain ⟨y0, _⟩ := box1 hB.y
    obtain ⟨a0, fa0⟩ := box1 hB.a
    refine (callsIn_wide (n := 10)).1 ?_
    refine callsIn_of_wp Tryd.func60 rfl trivial ?_ rfl
    simp only [Tryd.ntmps60, List.size_toArray, List.length_cons, List.length_nil, Nat.reduceAdd, Nat.reduceSub, Array.replicate_succ, Array.replicate_zero, List.push_toArray, List.append_toArray, List.nil_append, List.cons_append]
    gi_wp2
    refine hR.mono ?_
    rintro e W1 (⟨rfl, hJ1, sz1, kp1⟩ | ⟨rfl, hx1⟩)
    case inr =>
      clear hR hy
      gi_wp2
      go_ret
      exact ⟨false, rfl, fun h => (by cases h), fun _ => ⟨k, hx1⟩⟩
    have hB1 : WB W1 l Y A K k := ⟨box1_of hB.y (kp1 Y (box1_lt hB.y) (.inr hYm)), box1_of hB.a (kp1 A (box1_lt hB.a) (.inr hAm)), box1_of hB.k (kp1 K (box1_lt hB.k) (.inr hKm))⟩
    have ag1 : ∀ c, T c → W1.heap[c]? = w0.heap[c]? := fun c hc => (kp1 c (Nat.lt_of_lt_of_le (hTm c hc) hmW) (.inl hc)).trans (hag c hc)
    have hB2 : WB (W1.setCell ⟨A, 0, none⟩ (.int .i64 ((k + 1 : Nat)))) l Y A K (k + 1) := ⟨box1_of hB1.y (Below.heap_setCell _ _ _ _ hYA), box1_set _ hB1.a, box1_of hB1.k (Below.heap_setCell _ _ _ _ hKA)⟩
    have ag2 : ∀ c, T c → (W1.setCell ⟨A, 0, none⟩ (.int .i64 ((k + 1 : Nat)))).heap[c]? = w0.heap[c]? := fun c hc => (Below.heap_setCell _ _ _ _ (by have := hTm c hc; simp; omega)).trans (ag1 c hc)
    have hJ2 := hJ _ _ (W1.setCell ⟨A, 0, none⟩ (.int .i64 ((k + 1 : Nat)))) hJ1 ((Below.refl m W1).setCell hAm _)
    have sz2 : W.heap.size ≤ (W1.setCell ⟨A, 0, none⟩ (.int .i64 ((k + 1 : Nat)))).heap.size := by simpa [World.setCell] using sz1
    have kc2 := kidcell _ ag2
    obtain ⟨a1, fa1⟩ := box1 hB1.a
    have e1 : ((k + 1 : Nat) : Int) = (k : Int) + 1 := by omega
    rw [e1] at hB2 ag2 hJ2 sz2 kc2
    clear hR hy a0 fa0 y0
    gi_wp2
    refine wpIn_wide.2 ?_
    go_loopw [19] (fun i wr => ∃ j : Nat, i = .int .i64 (j : Nat) ∧ j ≤ x.ks.length ∧ J (k + (1 + sizes (x.ks.take j))) wr ∧ (∀ c, T c → wr.heap[c]? = w0.heap[c]?) ∧ W.heap.size ≤ wr.heap.size ∧ WB wr l Y A K (k + (1 + sizes (x.ks.take j)))) (fun i _ => x.ks.length - (intOf i).toNat)
    case atStart => exact ⟨0, rfl, by omega, by simpa [sizes_nil] using hJ2, ag2, sz2, by simpa [sizes_nil] using hB2⟩
    case round =>
      clear hB2 ag2 hJ2 sz2 kc2 a1 fa1 hB1 ag1 hJ1 sz1 kp1
      obtain ⟨j, rfl, hj, hJr, agr, szr, hBr⟩ := hrel
      have kc := kidcell _ agr
      obtain ⟨k0, _⟩ := box1 hBr.k
      by_cases hjl : j < x.ks.length
      · obtain ⟨rfl, hTx, hbx⟩ := px (by omega)
        have HS : Hid (sizes (x.ks.take (j + 1)) = sizes (x.ks.take j) + x.ks[j].size) := take_sizes x.ks hjl
        have hle := tot (j + 1)
        rw [HS.out] at hle
        have ihj := ih x.ks[j] (List.getElem_mem hjl) (k + (1 + sizes (x.ks.take j))) bx (ox + j * 4) wr.drew (hP.snoc hjl h4.2.2.2) ⟨fx j, hTx, qx j hjl, rx j hjl⟩ agr (Nat.le_trans hsz szr) (Nat.le_trans hmW szr) ⟨hBr.y, hBr.a, hBr.k⟩ (hJ _ _ _ hJr (Below.refl _ _).drew) (by omega)
        generalize hxk : x.ks[j] = xk at *
        generalize hsk : sizes (x.ks.take j) = sk at *
        go_wp2_with fail
        go_region_with (first
          | (go_at_call 60; refine ihj.mono ?_; rintro e W3 ⟨r, rfl, hr1, hr2⟩))
        all_goals
          clear ihj
          cases r with
          | true =>
            obtain ⟨hJ3, ag3, sz3, hB3⟩ := hr1 rfl
            clear hr1 hr2
            have e3 : k + (1 + sizes (x.ks.take (j + 1))) = k + (1 + sk) + xk.size := by rw [HS.out]; omega
            rw [← e3] at hJ3 hB3
            clear e3
            go_wp2
            go_roundw
            case rel => exact ⟨j + 1, by simp, by omega, hJ3, ag3, Nat.le_trans szr sz3, hB3⟩
            case measure => simp [intOf]; omega
          | false =>
            have hr3 := hr2 rfl
            clear hr1 hr2
            go_wp2
            go_ret
            exact ⟨false, rfl, fun h => (by cases h), fun _ => hr3⟩
      · have e : x.ks.take j = x.ks := List.take_of_length_le (by omega)
        rw [e, ← zs] at hJr hBr
        clear e tot
        go_wp2
        gi_wp2
        go_ret
        exact ⟨true, rfl, fun _ => ⟨hJr, agr, szr, hBr⟩, fun h => (by cases h)⟩

set_option maxRecDepth 100000 in
set_option maxHeartbeats 4000000 in
/-- the iterator itself: all places, or a part of them. -/
theorem places1_in (w0 : World) (T : Nat → Prop) (b0 o0 : Nat) (x0 : Nd) (l N : Nat) (J Jx : Nat → World → Prop) (W : World) (hTm : ∀ b, T b → b < W.heap.size)
    (hJ : ∀ k X Z, J k X → Below W.heap.size X Z → J k Z) (hY : Rnd w0 T b0 o0 x0 l W.heap.size J Jx) (hN : NAt w0 T b0 o0 x0) (hag : ∀ c, T c → W.heap[c]? = w0.heap[c]?) (hsz : w0.heap.size ≤ W.heap.size) (hb : W.cell? ⟨N, 0, none⟩ = some (.pointer (some ⟨b0, o0, none⟩))) (h0 : J 0 W) (zx : x0.size ≤ 4194304) :
    Calls Tryd.prog 59 #[.func (.yield l) #[] #[], .pointer (some ⟨N, 0, none⟩)] W fun e W' => (∃ v, e = .returned v) ∧ (J x0.size W' ∨ ∃ k', Jx k' W') := by
  have hNl : N < W.heap.size := World.block_lt_of_cell? W _ hb
  have wk := walk_in w0 T b0 o0 x0 l W.heap.size (W.heap.size + 1) (W.heap.size + 1 + 1) W.heap.size J Jx (by omega) (by omega) (by omega) (by omega) (by omega) hTm hJ hY x0 0 b0 o0
  have wk' : ∀ W2 : World, Below W.heap.size W W2 → WB W2 l W.heap.size (W.heap.size + 1) (W.heap.size + 1 + 1) 0 → _ := fun W2 bel wb => wk W2 (.here _ _ _) hN (fun c hc => (bel.block c (hTm c hc)).trans (hag c hc)) (Nat.le_trans hsz bel.size) bel.size wb (hJ _ _ _ h0 bel) (by omega)
  have hbN : ∀ W2 : World, Below W.heap.size W W2 → W2.cell? ⟨N, 0, none⟩ = some (.pointer (some ⟨b0, o0, none⟩)) := fun W2 bel => (bel.cell (p := ⟨N, 0, none⟩) hNl).trans hb
  have hb3 : ∀ o1 o2 o3, (((W.alloc o1).alloc o2).alloc o3).cell? ⟨N, 0, none⟩ = some (.pointer (some ⟨b0, o0, none⟩)) := fun o1 o2 o3 => hbN _ (((bel_a W o1).alloc (by simp) _).alloc (by simp; omega) _)
  clear wk hbN
  go_enter Tryd.func59, Tryd.ntmps59
  go_wp2_with fail
  refine (wk' _ (((bel_a W _).alloc (by simp) _).alloc (by simp; omega) _) ⟨⟨_, hold _ (by simp; omega) (hold _ (by simp) (hnew _ rfl))⟩, ⟨_, hold _ (by simp) (hnew _ (by simp))⟩, ⟨_, hnew _ (by simp)⟩⟩).mono ?_
  rintro e W3 ⟨r, rfl, hr1, hr2⟩
  clear wk' hb3
  go_wp2
  first | go_end0 | go_ret
  cases r with
  | true => exact ⟨⟨_, rfl⟩, .inl (by simpa using (hr1 rfl).1)⟩
  | false => exact ⟨⟨_, rfl⟩, .inr (hr2 rfl)⟩
theorem places_in (w : World) (b o : Nat) : Calls Tryd.prog 39 #[.pointer (some ⟨b, o, none⟩)] w fun e w' => e = .returned (.func (.func 59) #[] #[.pointer (some ⟨w.heap.size, 0, none⟩)]) ∧ ∃ t, w' = w.alloc (.cells #[.pointer (some ⟨b, o, none⟩)] t) := by
  go_enter Tryd.func39, Tryd.ntmps39
  go_wp2
  go_ret
  exact ⟨rfl, _, rfl⟩
end Go.Proofs.YtggahoefbcnaiaaDoor
