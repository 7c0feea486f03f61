/- Own text. The contract of the document's function that cuts a text into runes. The walk over all places of a tree. A loop over what goes over a tree: from the iterator's own contract to the statement. -/
import Derived.Test.YtpnljjcdlkjfhaaGreatDoorRv10
import Derived.OwnWalk
import Derived.Maps.AppendAt
import Derived.Test.YtpnljjcdlkjfhaaGreatDoorRv03
import Derived.RangeFuncNested
import Derived.RangeFuncBound
import Derived.RangeFuncCalls
import Derived.RangeFuncLeaves
import Derived.Shelf.Abstract
import Derived.Shelf.RegionOpen
import Derived.OwnWalkIn
import Derived.TacticsInMore
import Derived.LoopNIn
import Derived.LoopIn
import Derived.Laws.EntriesVeiled
namespace Go.Proofs.YtpnljjcdlkjfhaaGreatDoor
open Go.RowKit
def headV (l : List UInt8) : Int := if strayL l then -1 else ((decL l).1 : Int)
theorem headL_split (l : List UInt8) : headL l = (((decL l).2 : Int), headV l) := by
  unfold headL headV
  by_cases h : strayL l = true
  · rw [if_pos h, if_pos h]
    have : (decL l).2 = 1 := by simp [strayL] at h; exact h.2
    rw [this]; rfl
  · rw [if_neg h, if_neg h]
theorem head_any2 (s : ByteArray) (w : World) (h0 : 0 < s.size) (hs : s.size ≤ maxLen) :
    Calls Tryz.prog 39 #[.string s] w fun e w' => e = .returned (.tuple #[.int .i64 ((decL s.data.toList).2 : Int), .int .i64 (headV s.data.toList)]) ∧ w' = w := by
  have h := head_any s w h0 hs
  rw [headL_split] at h
  exact h

def strsV (xs : List (Nat × List UInt8)) : List Value := xs.map fun x => .string ⟨x.2.toArray⟩
theorem strsV_length (xs : List (Nat × List UInt8)) : (strsV xs).length = xs.length := by simp [strsV]
theorem strsV_append (xs ys : List (Nat × List UInt8)) : strsV (xs ++ ys) = strsV xs ++ strsV ys := by simp [strsV]

theorem cut_head (t : ByteArray) (n : Nat) : t.extract 0 n = ⟨(t.data.toList.take n).toArray⟩ := by
  apply ByteArray.ext
  simp [ByteArray.data_extract]
  apply Array.ext'
  simp
theorem cut_tail (t : ByteArray) (n : Nat) : (t.extract n t.size).data.toList = t.data.toList.drop n := drop_extract t n

def strLen : Value → Nat
  | .string t => t.size
  | _ => 0
theorem ne_nil_of_size (t : ByteArray) (h : 0 < t.size) : t.data.toList ≠ [] := by
  intro e
  have := Lib.size_eq t
  rw [e, List.length_nil] at this
  omega

/-- What is carried from round to round. -/
def RunesAt (w : World) (L : List UInt8) (N : Nat) (wr : World) (t : ByteArray) (v : Value) (b : Bool) : Prop :=
  ∃ done, wr.ownsRow w.heap.size 9 1 v done.length (strsV done) ∧ Below w.heap.size w wr ∧ done ++ scan t.data.toList = scan L ∧ b = (done.all fun x => !strayP x) ∧ done.length + t.size ≤ N

set_option maxHeartbeats 4000000 in
set_option maxRecDepth 100000 in
theorem refRunes_any (s : ByteArray) (w : World) (hs : s.size ≤ 1099511627776) :
    Calls Tryz.prog 38 #[.string s] w fun e w' => ∃ v, e = .returned (.tuple #[v, .bool (validL s.data.toList)]) ∧ w'.ownsRow w.heap.size 9 1 v (scan s.data.toList).length (strsV (scan s.data.toList)) ∧ Below w.heap.size w w' := by
  have hi9 : (Tryz.prog.info? 9).map (fun i => (i.zero, i.size, i.bytes)) = some (some (.string ByteArray.empty), 1, 16) := by kernel_rfl
  obtain ⟨i0, hi, hx⟩ := Option.map_eq_some_iff.1 hi9
  simp only [Prod.mk.injEq] at hx
  obtain ⟨hz0, hz1, hz2⟩ := hx
  clear hi9
  go_enter Tryz.func38, Tryz.ntmps38
  go_wp2
  go_loopw [0, 4, 5] (fun x v b wr => ∃ (t : ByteArray) (bo : Bool), x = .string t ∧ b = .bool bo ∧ RunesAt w s.data.toList s.size wr t v bo) (fun x _ _ _ => strLen x)
  case atStart => exact ⟨s, true, rfl, rfl, [], World.ownsRow_nil _ _ _ _, Below.refl _ _, rfl, rfl, by simp⟩
  case round =>
    obtain ⟨t, bo, rfl, rfl, done, hown, hbw, hdone, hbo, hlen⟩ := hrel
    by_cases h0 : 0 < t.size
    · have hne := ne_nil_of_size t h0
      have hwd := (decL_width t.data.toList).1
      have hwl := decL_le _ hne
      rw [← Lib.size_eq] at hwl
      have hcons := scan_cons _ hne
      have hstr := strayL_eq _ hne
      have hhead := fun w1 => head_any2 t w1 h0 (by unfold maxLen; omega)
      have htl := Lib.size_eq (t.extract (decL t.data.toList).2 t.size)
      have hcut := cut_tail t (decL t.data.toList).2
      rw [hcut, List.length_drop, ← Lib.size_eq] at htl
      obtain ⟨n, hn⟩ : ∃ n, n = (decL t.data.toList).2 := ⟨_, rfl⟩
      have Hstep : Hid (∀ W v, W.ownsRow w.heap.size 9 1 v (done.length + 1) (strsV done ++ [.string (t.extract 0 n)]) → Below w.heap.size w W → RunesAt w s.data.toList s.size W (t.extract n t.size) v (bo && !strayL t.data.toList)) := by
        intro W v hv hW
        refine ⟨done ++ [((decL t.data.toList).1, t.data.toList.take (decL t.data.toList).2)], ?_, hW, ?_, ?_, ?_⟩
        · rw [cut_head, hn] at hv
          rw [List.length_append, strsV_append]
          exact hv
        · rw [hn, hcut, List.append_assoc, ← hdone, hcons]
          rfl
        · rw [hbo, List.all_append, hstr]
          simp
        · rw [List.length_append, hn, htl, List.length_singleton]
          omega
      have hnew : (t.extract n t.size).size < t.size := by rw [hn, htl]; omega
      rw [← hn] at hhead hwd hwl
      clear hcons hstr hcut htl hdone hbo hn
      have hE : t.toList.isEmpty = false := by rw [Lib.toList_data]; simpa using hne
      clear hne
      have hsz := hbw.size
      by_cases hst : strayL t.data.toList = true
      · have hv : headV t.data.toList = -1 := by rw [headV, if_pos hst]
        rw [hv] at hhead
        rw [hst] at Hstep
        clear hv hst
        cases bo
        all_goals
          go_wp2_with (first | (go_at_call 39; refine (hhead _).mono ?_; rintro e w' ⟨rfl, rfl⟩) | (at_builtin; refine wpList_append_own _ rfl _ _ 70 rfl w.heap.size 9 i0 (.string ByteArray.empty) 1 16 Tryz.underlying70 hi hz0 hz1 hz2 rfl (by decide) _ _ _ rfl (hown.alloc _) ⟨_, 0, none⟩ 1 1 [.string (t.extract 0 n)] rfl rfl (cell_one_new _ _ _) (fun x hx => by simp at hx; subst hx; rfl) (by unfold maxLen; omega) (by omega) (by simp; omega) ?_))
          intro v' W2 hown' hg _
          have hb2 := (hbw.alloc (by omega) _).grown hg (by simp; omega) (fun k hk => (hown.lt k hk).1)
          have hqa := Hstep.out W2 v' hown' hb2
          clear hown' hg hb2
          go_wp2
          go_roundw
          case rel => exact ⟨_, _, rfl, rfl, hqa⟩
          case measure => exact hnew
      · have hst' : strayL t.data.toList = false := by simpa using hst
        have hv : headV t.data.toList = ((decL t.data.toList).1 : Int) := by rw [headV, if_neg hst]
        rw [hv] at hhead
        rw [hst'] at Hstep
        clear hv hst hst'
        cases bo
        all_goals
          go_wp2_with (first | (go_at_call 39; refine (hhead _).mono ?_; rintro e w' ⟨rfl, rfl⟩) | (at_builtin; refine wpList_append_own _ rfl _ _ 70 rfl w.heap.size 9 i0 (.string ByteArray.empty) 1 16 Tryz.underlying70 hi hz0 hz1 hz2 rfl (by decide) _ _ _ rfl (hown.alloc _) ⟨_, 0, none⟩ 1 1 [.string (t.extract 0 n)] rfl rfl (cell_one_new _ _ _) (fun x hx => by simp at hx; subst hx; rfl) (by unfold maxLen; omega) (by omega) (by simp; omega) ?_))
          intro v' W2 hown' hg _
          have hb2 := (hbw.alloc (by omega) _).grown hg (by simp; omega) (fun k hk => (hown.lt k hk).1)
          have hqa := Hstep.out W2 v' hown' hb2
          clear hown' hg hb2
          go_wp2
          go_roundw
          case rel => exact ⟨_, _, rfl, rfl, hqa⟩
          case measure => exact hnew
    · have hE : t.toList.isEmpty = true := by
        rw [Lib.toList_data, List.isEmpty_iff]
        exact List.eq_nil_of_length_eq_zero (by rw [← Lib.size_eq]; omega)
      have hnil : scan t.data.toList = [] := by
        rw [Lib.toList_data, List.isEmpty_iff] at hE
        rw [hE]; rfl
      rw [hnil, List.append_nil] at hdone
      subst hdone
      go_wp2
      go_ret2
      exact ⟨_, by rw [validL, ← hbo]; rfl, hown, hbw⟩
set_option linter.unusedVariables false
attribute [local go_sem] Oper.semAt_some

/-- in the cells from ⟨b, o⟩ on lies the tree x, its lists in blocks of T. -/
def NAt (w : World) (T : Nat → Prop) (b o : Nat) (x : Nd) : Prop := ∃ v, T b ∧ Four w b o x v ∧ LAt w T v x.ks
theorem NAt.keep {w w' : World} {T : Nat → Prop} {b o : Nat} {x : Nd} (h : NAt w T b o x) (hs : w.heap.size ≤ w'.heap.size) (e : ∀ c, T c → w'.heap[c]? = w.heap[c]?) : NAt w' T b o x := by
  obtain ⟨v, h1, h2, h3⟩ := h
  exact ⟨v, h1, h2.of_block (e b h1), h3.keep hs (fun c hc _ => e c hc)⟩

/-- the place k of the tree x at ⟨b, o⟩ is y, at ⟨b', o'⟩. -/
inductive PlT (w : World) : Nat → Nat → Nd → Nat → Nat → Nat → Nd → Prop
  | here (b o : Nat) (x : Nd) : PlT w b o x 0 b o x
  | kid (b o : Nat) (x : Nd) (bl ol c i : Nat) (hi : i < x.ks.length) (hc : w.cell? ⟨b, o + 3, none⟩ = some (.slice (some ⟨bl, ol, none⟩) x.ks.length c)) (k b' o' : Nat) (y : Nd) (h : PlT w bl (ol + i * 4) x.ks[i] k b' o' y) : PlT w b o x (1 + sizes (x.ks.take i) + k) b' o' y
theorem PlT.snoc {w : World} {b o : Nat} {x : Nd} {k b' o' : Nat} {y : Nd} (h : PlT w b o x k b' o' y) {bl ol c i : Nat} (hi : i < y.ks.length) (hc : w.cell? ⟨b', o' + 3, none⟩ = some (.slice (some ⟨bl, ol, none⟩) y.ks.length c)) :
    PlT w b o x (k + (1 + sizes (y.ks.take i))) bl (ol + i * 4) y.ks[i] := by
  induction h with
  | here b o x =>
    have := PlT.kid b o x bl ol c i hi hc 0 _ _ _ (.here _ _ _)
    simpa using this
  | kid b o x bl' ol' c' i' hi' hc' k b' o' y h ih =>
    rw [Nat.add_assoc]
    exact .kid b o x bl' ol' c' i' hi' hc' _ _ _ _ (ih hi hc)
theorem flats_get : ∀ (l : List Nd) (i k : Nat) (hi : i < l.length), k < l[i].size → (flats l)[sizes (l.take i) + k]? = l[i].flat[k]?
  | x :: l, 0, k, hi, hk => by
    rw [flats_cons, List.take_zero, sizes_nil, Nat.zero_add]
    simp only [List.getElem_cons_zero] at hk ⊢
    exact List.getElem?_append_left (by rw [x.flat_len]; exact hk)
  | x :: l, i + 1, k, hi, hk => by
    rw [flats_cons, List.take_succ_cons, sizes_cons]
    simp only [List.getElem_cons_succ] at hk ⊢
    rw [List.getElem?_append_right (by rw [x.flat_len]; omega), x.flat_len, show x.size + sizes (l.take i) + k - x.size = sizes (l.take i) + k by omega]
    exact flats_get l i k (by simpa using hi) hk
theorem PlT.flat {w : World} {b o : Nat} {x : Nd} {k b' o' : Nat} {y : Nd} (h : PlT w b o x k b' o' y) : x.flat[k]? = some y := by
  induction h with
  | here b o x => rw [x.flat_eq]; rfl
  | kid b o x bl ol c i hi hc k b' o' y h ih =>
    have hk : k < x.ks[i].size := by rw [← x.ks[i].flat_len]; exact (List.getElem?_eq_some_iff.1 ih).1
    rw [x.flat_eq, show 1 + sizes (x.ks.take i) + k = (sizes (x.ks.take i) + k) + 1 by omega, List.getElem?_cons_succ, flats_get _ _ _ hi hk]
    exact ih

theorem box1 {w : World} {b : Nat} {p : Value} (h : ∃ t, w.heap[b]? = some (.cells #[p] t (0, 0))) : w.cell? ⟨b, 0, none⟩ = some p ∧ w.frozen? ⟨b, 0, none⟩ = false := by
  obtain ⟨t, h⟩ := h
  simp [World.cell?, World.frozen?, h]
theorem box1_set {w : World} {b : Nat} {p : Value} (u : Value) (h : ∃ t, w.heap[b]? = some (.cells #[p] t (0, 0))) : ∃ t, (w.setCell ⟨b, 0, none⟩ u).heap[b]? = some (.cells #[u] t (0, 0)) := by
  obtain ⟨t, h⟩ := h
  exact ⟨t, by simp [World.setCell, Array.getElem?_modify, h]⟩
theorem box1_of {w w' : World} {b : Nat} {p : Value} (h : ∃ t, w.heap[b]? = some (.cells #[p] t (0, 0))) (e : w'.heap[b]? = w.heap[b]?) : ∃ t, w'.heap[b]? = some (.cells #[p] t (0, 0)) := by
  obtain ⟨t, h⟩ := h
  exact ⟨t, e.trans h⟩
theorem box1_lt {w : World} {b : Nat} {p : Value} (h : ∃ t, w.heap[b]? = some (.cells #[p] t (0, 0))) : b < w.heap.size := by
  obtain ⟨t, h⟩ := h
  exact (Array.getElem?_eq_some_iff.1 h).1

/-- what a round of a loop over all places owes: it goes on, and keeps the tree and all from m on; or it leaves. -/
def Rnd (w0 : World) (T : Nat → Prop) (b0 o0 : Nat) (x0 : Nd) (l m : Nat) (J Jx : Nat → World → Prop) : Prop :=
  ∀ k b o y W, PlT w0 b0 o0 x0 k b o y → NAt w0 T b o y → (∀ c, T c → W.heap[c]? = w0.heap[c]?) → m ≤ W.heap.size → J k W →
    YieldAt Fence.wide 0 Tryz.prog l #[.int .i64 (k : Nat), .pointer (some ⟨b, o, none⟩)] W fun e W' =>
      (e = .returned (.bool true) ∧ J (k + 1) W' ∧ W.heap.size ≤ W'.heap.size ∧ ∀ c, c < W.heap.size → (T c ∨ m ≤ c) → W'.heap[c]? = W.heap[c]?) ∨ (e = .returned (.bool false) ∧ Jx k W')

theorem room_none (k : Nat) : Fence.wide.room k := room_wide k
theorem yield_any {P : Program} {l : Nat} {args : Array Value} {W : World} {R : Ending → World → Prop} {m : Nat} (m' : Nat) (h : YieldAt Fence.wide m P l args W R) : YieldAt Fence.wide m' P l args W R := by
  obtain ⟨fn, tmps, assign, body, hy, hR⟩ := h
  exact ⟨fn, tmps, assign, body, hy, hR.1, fun c cs _ => hR.2 c cs (room_wide _)⟩

/-- a round that is told 'args' at place k, all from lo on being new for it: it goes on and keeps T and what lies from m to lo, or it leaves. -/
def RndG (G : Nat → Nat → Array Value → World → Prop) (T : Nat → Prop) (l m : Nat) (J Jx : Nat → World → Prop) : Prop :=
  ∀ k lo args W, G k lo args W → m ≤ lo → lo ≤ W.heap.size → J k W →
    YieldAt Fence.wide 0 Tryz.prog l args W fun e W' =>
      (e = .returned (.bool true) ∧ J (k + 1) W' ∧ W.heap.size ≤ W'.heap.size ∧ ∀ c, c < lo → (T c ∨ m ≤ c) → W'.heap[c]? = W.heap[c]?) ∨ (e = .returned (.bool false) ∧ Jx k W')

/-- what the body of such a loop leaves. B: from there on the loop's own blocks lie. -/
def PostR (B : Nat) (T : Nat → Prop) (lo k : Nat) (J : Nat → World → Prop) (Jx : Code → Nat → World → Prop) (W : World) : Exit → Act → World → Prop
  | .normal, _, W' => J (k + 1) W' ∧ W.heap.size ≤ W'.heap.size ∧ ∀ c, c < lo → (T c ∨ B ≤ c) → W'.heap[c]? = W.heap[c]?
  | .ret, _, W' => Jx .ret k W' ∧ W.heap.size ≤ W'.heap.size ∧ ∀ c, c < lo → B ≤ c → W'.heap[c]? = W.heap[c]?
  | .exit id, _, W' => Jx (.exit id) k W' ∧ W.heap.size ≤ W'.heap.size ∧ ∀ c, c < lo → B ≤ c → W'.heap[c]? = W.heap[c]?
  | .goto t, _, W' => Jx (.goto t) k W' ∧ W.heap.size ≤ W'.heap.size ∧ ∀ c, c < lo → B ≤ c → W'.heap[c]? = W.heap[c]?
  | .panic _, _, _ => False
  | .outgrown, _, _ => False

theorem below_put {B : Nat} {W : World} {l : Nat} (o : Obj) (hl : B ≤ l) : Below B W (W.putObj l o) := by
  refine ⟨rfl, rfl, rfl, ?_, fun c hc => World.putObj_heap_other (by omega)⟩
  simp [World.putObj]
theorem put_size {W : World} {l : Nat} (o : Obj) : (W.putObj l o).heap.size = W.heap.size := by simp [World.putObj]

set_option maxHeartbeats 1000000 in
theorem range_law {g : Operand} {ps : Array Tmp} {assign body : Code} {Q : Exit → Act → World → Prop} {a : Act} {w : World} {gf : Nat} {lb : Array Value} (hg : a.eval g = .func (.func gf) #[] lb) (eg : ∀ args w, (callFunc gf args).run Tryz.prog w = .ok (.enter gf args) w)
    (G : Nat → Nat → Array Value → World → Prop) (T : Nat → Prop) (N : Nat) (hps : ∀ k lo args W, G k lo args W → args.size = ps.size) (hT : ∀ b, T b → b < w.heap.size)
    (hit : ∀ (l : Nat) (J Jx : Nat → World → Prop) (W1 : World), Below w.heap.size w W1 → (∀ k X Z, J k X → Below W1.heap.size X Z → J k Z) → RndG G T l W1.heap.size J Jx → J 0 W1 →
      Calls Tryz.prog gf (#[.func (.yield l) #[] #[]] ++ lb) W1 fun e W' => (∃ v, e = .returned v) ∧ (J N W' ∨ ∃ k', Jx k' W'))
    (J : Nat → World → Prop) (Jx : Code → Nat → World → Prop) (hJ : ∀ k X Z, J k X → Below w.heap.size X Z → J k Z) (hJx : ∀ c k X l r o, Jx c k X → w.heap.size ≤ l → X.heap[l]? = some (.loop r) → Jx c k (X.putObj l o)) (h0 : J 0 w)
    (Ax : Nat → Nat → Array Value → Act → World → Prop)
    (hassign : ∀ (l k lo : Nat) (args : Array Value) (W : World) (K : Act → World → Prop), G k lo args W → J k W → lo ≤ W.heap.size → (∀ a' W', Below W.heap.size W W' → Ax k lo args a' W' → K a' W') →
      assign.wpIn (Fence.wide.inRound l) 8 Tryz.prog (Exit.then K (fun _ _ _ => False)) { tmps := (ps.zip args).foldl (fun t (p, v) => t.setIfInBounds p v) a.tmps, defers := [] } W)
    (hbody : ∀ (l k lo : Nat) (args : Array Value) (a' : Act) (W Wa W2 : World), G k lo args W → J k W → lo ≤ W.heap.size → Below W.heap.size W Wa → Ax k lo args a' Wa → w.heap.size ≤ l → l < lo → (∀ c, c ≠ l → W2.heap[c]? = Wa.heap[c]?) → W2.heap.size = Wa.heap.size → (∃ r, W2.heap[l]? = some (.loop r)) → Below w.heap.size W W2 →
      body.wpIn (Fence.wide.inRound l) 8 Tryz.prog (PostR w.heap.size T lo k J Jx W2) a' W2)
    (hdone : ∀ (D : Nat) (W : World), w.heap.size ≤ D → J N W → W.heap[D]? = some (.deferred (some [])) → Q .normal { a with defers := { target := .collected D, args := #[] } :: a.defers } W)
    (hstop : ∀ (D : Nat) (c : Code) (k : Nat) (W : World), w.heap.size ≤ D → Jx c k W → W.heap[D]? = some (.deferred (some [])) → c.wpIn Fence.wide 10 Tryz.prog Q { a with defers := { target := .collected D, args := #[] } :: a.defers } W) :
    (Code.rangeFunc g ps assign body).wpIn Fence.wide 10 Tryz.prog Q a w := by
  refine wpIn_rangeFunc ?_
  intro fn hfn
  rw [show Fence.wide.round = none from rfl]
  obtain ⟨rec, hrec⟩ : ∃ rec : LoopState → Option Code → Loop, rec = fun st pe => { state := st, pending := pe, fn, tmps := a.tmps, params := ps, assign, body, defers := w.heap.size } := ⟨_, rfl⟩
  obtain ⟨W1, hW1⟩ : ∃ W1, (w.alloc (.deferred (some []))).alloc (.loop (rec .ready none)) = W1 := ⟨_, rfl⟩
  have hL1 : W1.heap[w.heap.size + 1]? = some (.loop (rec .ready none)) := by rw [← hW1]; exact hnew _ (by simp)
  have hK1 : W1.heap[w.heap.size]? = some (.deferred (some [])) := by rw [← hW1]; exact hold _ (by simp) (hnew _ rfl)
  have hs1 : W1.heap.size = w.heap.size + 2 := by rw [← hW1]; simp
  have hb1 : Below w.heap.size w W1 := by rw [← hW1]; exact (bel_a _ _).alloc (by simp) _
  refine ⟨w.heap.size + 1, [{ target := .collected w.heap.size, args := #[] }], W1, { target := .fn (.func gf) lb, args := #[.func (.yield (w.heap.size + 1)) #[] #[]] }, W1, gf,
    #[.func (.yield (w.heap.size + 1)) #[] #[]] ++ lb, W1, ?_, ?_, ?_, ?_, fun _ => (by omega), ?_⟩
  · rw [← hW1, hrec]; exact run_enterLoop_outer _ _ _ _ _
  · simp only [resolve, hg]
    simp [go_sem]
  · intro f' hf'; trivial
  · simp [invoke, go_sem, eg]
  · refine callsIn_wide.2 ?_
    refine (hit (w.heap.size + 1)
      (fun k W => J k W ∧ W.heap[w.heap.size + 1]? = some (.loop (rec .ready none)) ∧ W.heap[w.heap.size]? = some (.deferred (some [])))
      (fun k W => ∃ c, Jx c k W ∧ W.heap[w.heap.size + 1]? = some (.loop (rec .done (some c))) ∧ W.heap[w.heap.size]? = some (.deferred (some [])))
      W1 hb1 (fun k X Z hX hB => ⟨hJ k X Z hX.1 (hB.mono (by omega)), (hB.block _ (by omega)).trans hX.2.1, (hB.block _ (by omega)).trans hX.2.2⟩) ?_ ⟨hJ _ _ _ h0 hb1, hL1, hK1⟩).mono ?_
    · rintro k lo args W hG hm hlo ⟨hj, hl, hd⟩
      have hlt : w.heap.size + 1 < W.heap.size := (Array.getElem?_eq_some_iff.1 hl).1
      have hy := run_yield (P := Tryz.prog) (args := args) hl (by rw [hrec]; exact hps k lo args W hG)
      rw [hrec] at hy
      refine ⟨fn, _, assign, body, hy, ?_⟩
      have hRd : RoundIn Fence.wide 8 Tryz.prog (w.heap.size + 1) fn ((ps.zip args).foldl (fun t (p, v) => t.setIfInBounds p v) a.tmps) assign body W fun e W' =>
          (e = .returned (.bool true) ∧ (J (k + 1) W' ∧ W'.heap[w.heap.size + 1]? = some (.loop (rec .ready none)) ∧ W'.heap[w.heap.size]? = some (.deferred (some []))) ∧ W.heap.size ≤ W'.heap.size ∧ ∀ c, c < lo → (T c ∨ W1.heap.size ≤ c) → W'.heap[c]? = W.heap[c]?) ∨
          (e = .returned (.bool false) ∧ ∃ c, Jx c k W' ∧ W'.heap[w.heap.size + 1]? = some (.loop (rec .done (some c))) ∧ W'.heap[w.heap.size]? = some (.deferred (some []))) := by
        refine roundIn_of_wpIn hfn (hassign _ k lo args W _ hG hj hlo ?_)
        clear hy
        intro a' Wa hba hax
        have hla := (hba.block _ hlt).trans hl
        have hda := (hba.block w.heap.size (by omega)).trans hd
        have hsa := hba.size
        have hlta : w.heap.size + 1 < Wa.heap.size := (Array.getElem?_eq_some_iff.1 hla).1
        refine ⟨_, run_beginRound hla (by rw [hrec]), ?_⟩
        obtain ⟨W2, hW2⟩ : ∃ W2, Wa.putObj (w.heap.size + 1) (.loop { rec .ready none with state := .busy }) = W2 := ⟨_, rfl⟩
        have hl2 : W2.heap[w.heap.size + 1]? = some (.loop { rec .ready none with state := .busy }) := by rw [← hW2]; exact World.putObj_heap_same hlta
        have ho2 : ∀ c, c ≠ w.heap.size + 1 → W2.heap[c]? = Wa.heap[c]? := fun c hc => by rw [← hW2]; exact World.putObj_heap_other hc
        have hs2 : W2.heap.size = Wa.heap.size := by rw [← hW2]; exact put_size _
        have hb2 : Below w.heap.size W W2 := (hba.mono (by omega)).trans (by rw [← hW2]; exact below_put _ (by omega))
        rw [hW2]
        have hd2 := (ho2 w.heap.size (by omega)).trans hda
        refine wpIn_mono (hbody _ k lo args a' W Wa W2 hG hj hlo hba hax (by omega) (by omega) ho2 hs2 ⟨_, hl2⟩ hb2) ?_
        have fin : ∀ (jump : Option Code) (W3 : World), W3.heap[w.heap.size + 1]? = some (.loop { rec .ready none with state := .busy }) →
            (Instr.endRound (w.heap.size + 1) jump).run Tryz.prog W3 = .ok (.bool jump.isNone) (W3.putObj (w.heap.size + 1) (.loop (rec (if jump.isNone then .ready else .done) jump))) ∧
            (W3.putObj (w.heap.size + 1) (.loop (rec (if jump.isNone then .ready else .done) jump))).heap[w.heap.size + 1]? = some (.loop (rec (if jump.isNone then .ready else .done) jump)) := fun jump W3 hl3 => by
          have := run_endRound (P := Tryz.prog) jump hl3
          rw [hrec] at this ⊢
          exact ⟨this, World.putObj_heap_same (Array.getElem?_eq_some_iff.1 hl3).1⟩
        have leave : ∀ (c : Code) (W3 : World), Jx c k W3 → (∀ b, b < lo → w.heap.size ≤ b → W3.heap[b]? = W2.heap[b]?) → ∃ v w', (Instr.endRound (w.heap.size + 1) (some c)).run Tryz.prog W3 = .ok v w' ∧
            ((Ending.returned v = .returned (.bool true) ∧ (J (k + 1) w' ∧ w'.heap[w.heap.size + 1]? = some (.loop (rec .ready none)) ∧ w'.heap[w.heap.size]? = some (.deferred (some []))) ∧ W.heap.size ≤ w'.heap.size ∧ ∀ c, c < lo → (T c ∨ W1.heap.size ≤ c) → w'.heap[c]? = W.heap[c]?) ∨
             (Ending.returned v = .returned (.bool false) ∧ ∃ c, Jx c k w' ∧ w'.heap[w.heap.size + 1]? = some (.loop (rec .done (some c))) ∧ w'.heap[w.heap.size]? = some (.deferred (some [])))) := fun c W3 hx hkp => by
          obtain ⟨hr, hl4⟩ := fin (some c) W3 ((hkp _ (by omega) (by omega)).trans hl2)
          exact ⟨_, _, hr, .inr ⟨rfl, c, hJx _ _ _ _ _ _ hx (by omega) ((hkp _ (by omega) (by omega)).trans hl2), hl4, (World.putObj_heap_other (by omega)).trans ((hkp _ (by omega) (by omega)).trans hd2)⟩⟩
        rintro e a3 W3 hp
        cases e with
        | normal =>
          obtain ⟨hj3, hs3, hkp⟩ := hp
          obtain ⟨hr, hl4⟩ := fin none W3 ((hkp _ (by omega) (.inr (by omega))).trans hl2)
          refine ⟨_, _, hr, .inl ⟨rfl, ⟨hJ _ _ _ hj3 (below_put _ (by omega)), hl4, (World.putObj_heap_other (by omega)).trans ((hkp _ (by omega) (.inr (by omega))).trans hd2)⟩, by rw [put_size]; omega, fun c hc hcm => ?_⟩⟩
          have hne : c ≠ w.heap.size + 1 := by
            rcases hcm with h | h
            · have := hT c h; omega
            · omega
          exact (World.putObj_heap_other hne).trans ((hkp c hc (hcm.elim .inl (fun h => .inr (by omega)))).trans ((ho2 c hne).trans (hba.block c (by omega))))
        | ret => exact leave .ret W3 hp.1 hp.2.2
        | exit id => exact leave (.exit id) W3 hp.1 hp.2.2
        | goto t => exact leave (.goto t) W3 hp.1 hp.2.2
        | panic ch => exact hp.elim
        | outgrown => exact hp.elim
      exact ⟨hRd.1, fun c cs _ => hRd.2 c cs (room_wide _)⟩
    · rintro e W2 ⟨⟨v, rfl⟩, (⟨hj, hl, hk⟩ | ⟨k, c, hx, hl, hk⟩)⟩
      · exact ⟨none, _, by have := run_endLoop (P := Tryz.prog) hl (by rw [hrec]; simp); rw [hrec] at this; exact this, hdone _ _ (Nat.le_refl _) (hJ _ _ _ hj (below_put _ (by omega))) ((World.putObj_heap_other (by omega)).trans hk)⟩
      · exact ⟨some c, _, by have := run_endLoop (P := Tryz.prog) hl (by rw [hrec]; simp); rw [hrec] at this; exact this, hstop _ c k _ (Nat.le_refl _) (hJx _ _ _ _ _ _ hx (by omega) hl) ((World.putObj_heap_other (by omega)).trans hk)⟩
end Go.Proofs.YtpnljjcdlkjfhaaGreatDoor
