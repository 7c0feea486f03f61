/- Own text. What stands together in a class, an import, an export: package tree. Whether the members of a class stand in order: package tree. -/
import Derived.Test.YtpnljjcdlkjfhaaGreatDoorRv06
set_option linter.unusedVariables false
set_option linter.unusedSimpArgs false
namespace Go.Proofs.YtpnljjcdlkjfhaaGreatDoor
open Go.RowKit
/-- the kind of the first kid. -/
def hkL (l : List Nd) : Int := match l with | [] => 0 | z :: _ => z.k
def hk0 (y : Nd) : Int := hkL y.ks
theorem hkL_get : ∀ (l : List Nd) (h : 0 < l.length), l[0].k = hkL l
  | z :: l, _ => rfl
set_option maxHeartbeats 4000000 in
theorem typed1_any (y : Nd) (hy : y.ks ≠ []) (W : World) (S : Nat → Prop) (v : Value) (hx : LAt W S v y.ks) : Calls Tryz.prog 139 #[y.v v] W fun e W' => e = .returned (.bool (hk0 y == 14)) ∧ Below W.heap.size W W' := by
  obtain ⟨ax, cx, bx, ox, fx, rfl, px, qx, rx⟩ := hx.op
  have hl : 0 < y.ks.length := List.length_pos_iff.2 hy
  obtain ⟨rfl, hSx, hbx⟩ := px hl
  have h4 := (qx 0 hl).of_block (Below.heap_alloc W (Obj.cells #[Value.int IntKind.i64 y.k, Value.string y.t, Value.int IntKind.i64 y.n, Value.slice (some { block := bx, off := ox }) y.ks.length cx] 51) bx hbx)
  obtain ⟨u1, _⟩ := h4
  have hk : y.ks[0].k = hk0 y := hkL_get y.ks hl
  rw [hk] at u1
  have e0 : ox + 0 * 4 = ox := by omega
  rw [e0] at u1
  unfold Nd.v
  go_enter Tryz.func139, Tryz.ntmps139
  go_wp2
  go_ret
  exact ⟨rfl, bel_a _ _⟩

set_option maxHeartbeats 4000000 in
theorem star1_any (y : Nd) (W : World) (S : Nat → Prop) (v : Value) (hx : LAt W S v y.ks) : Calls Tryz.prog 184 #[y.v v] W fun e W' => e = .returned (.bool (y.t.toList == [42])) ∧ Below W.heap.size W W' := by
  obtain ⟨ax, cx, rfl⟩ := hx.sl
  unfold Nd.v
  go_enter Tryz.func184, Tryz.ntmps184
  go_wp2
  go_ret
  exact ⟨rfl, bel_a _ _⟩

set_option maxHeartbeats 4000000 in
/-- does some tree of the list say so? -/
theorem containsFunc_any (w : World) (S : Nat → Prop) (l : List Nd) (v : Value) (f : FuncId) (cap : Array Value) (q : Nd → Bool) (hx : LAt w S v l) (hl : l.length ≤ 4194304) (ent : ∀ args w, (callFunc f args).run Tryz.prog w = .ok (.enter f args) w)
    (hq : ∀ y ∈ l, ∀ (W : World) (v : Value), Below w.heap.size w W → LAt W S v y.ks → Calls Tryz.prog f (#[y.v v] ++ cap) W fun e W' => e = .returned (.bool (q y)) ∧ Below W.heap.size W W') :
    Calls Tryz.prog 138 #[v, .func (.func f) #[] cap] w fun e w' => e = .returned (.bool (l.any q)) ∧ Below w.heap.size w w' := by
  have hi := indexFunc_any w S l v f cap q hx hl ent hq
  clear hq
  go_enter Tryz.func138, Tryz.ntmps138
  go_wp2_with (go_at_call 183; refine hi.mono ?_; rintro e w' ⟨i, rfl, b1, hor⟩)
  go_ret
  refine ⟨?_, b1⟩
  congr 2
  rcases hor with ⟨rfl, h⟩ | ⟨k, hk, rfl, h, _⟩
  · have : l.any q = false := by rw [List.any_eq_false]; intro x hx; simp [h x hx]
    rw [this]; rfl
  · have : l.any q = true := List.any_eq_true.2 ⟨l[k], List.getElem_mem hk, h⟩
    rw [this]; simp

set_option maxHeartbeats 4000000 in
theorem typed_any (x : Nd) (w : World) (S : Nat → Prop) (v : Value) (hx : LAt w S v x.ks) (hl : x.ks.length ≤ 4194304) (hk : ∀ y ∈ x.ks, y.ks ≠ []) :
    Calls Tryz.prog 105 #[x.v v] w fun e w' => e = .returned (.bool (!x.ks.any fun y => hk0 y == 14)) ∧ Below w.heap.size w w' := by
  have hc := fun W (b : Below w.heap.size w W) => containsFunc_any W S x.ks v 139 #[] (fun y => hk0 y == 14) (hx.bel b) hl (enters_of Tryz.func139 (by kernel_rfl) rfl) (fun y hy W' v' _ h => typed1_any y (hk y hy) W' S v' h)
  obtain ⟨ax, cx, rfl⟩ := hx.sl
  unfold Nd.v
  go_enter Tryz.func105, Tryz.ntmps105
  go_wp2_with (go_at_call 138; refine (hc _ (bel_a _ _)).mono ?_; rintro e W1 ⟨rfl, b1⟩)
  go_ret
  exact ⟨rfl, (bel_a _ _).trans (b1.mono (by simp))⟩

/-- the place of the first star. -/
def starI (l : List Nd) : Option Nat := l.findIdx? fun y => y.t.toList == [42]
def starN (l : List Nd) : Int := match starI l with | none => -1 | some k => k
set_option maxHeartbeats 4000000 in
theorem star_any (l : List Nd) (w : World) (S : Nat → Prop) (v : Value) (hx : LAt w S v l) (hl : l.length ≤ 4194304) :
    Calls Tryz.prog 142 #[v] w fun e w' => e = .returned (.int .i64 (starN l)) ∧ Below w.heap.size w w' := by
  have hi := indexFunc_any w S l v 184 #[] (fun y => y.t.toList == [42]) hx hl (enters_of Tryz.func184 (by kernel_rfl) rfl) (fun y hy W' v' _ h => star1_any y W' S v' h)
  go_enter Tryz.func142, Tryz.ntmps142
  go_wp2_with (go_at_call 183; refine hi.mono ?_; rintro e w' ⟨i, rfl, b1, hor⟩)
  go_ret
  refine ⟨?_, b1⟩
  congr 2
  unfold starN starI
  rcases hor with ⟨rfl, h⟩ | ⟨k, hk, rfl, h, h2⟩
  · have : l.findIdx? (fun y => y.t.toList == [42]) = none := by rw [List.findIdx?_eq_none_iff]; exact h
    rw [this]
    rfl
  · have : l.findIdx? (fun y => y.t.toList == [42]) = some k := by
      rw [List.findIdx?_eq_some_iff_getElem]
      refine ⟨hk, h, fun j hj => ?_⟩
      have := h2 l[j] (by rw [List.mem_take_iff_getElem]; exact ⟨j, by omega, rfl⟩)
      simp [this]
    rw [this]
    rfl

/-- the default is imported first. -/
def def0 (l : List Nd) : Bool := match l with | [] => false | z :: _ => z.t.toList == [100, 101, 102, 97, 117, 108, 116]
theorem def0_get : ∀ (l : List Nd) (h : 0 < l.length), l[0].t.toList = [100, 101, 102, 97, 117, 108, 116] ↔ def0 l = true
  | z :: l, _ => by simp [def0]
def importS (x : Nd) : Bool :=
  if starN x.ks < 0 then (x.n == 0) || decide (0 < x.ks.length)
  else ((starN x.ks == 0) || ((starN x.ks == 1) && def0 x.ks)) && (starN x.ks == (x.ks.length : Int) - 1) && (x.n == 0)
theorem starN_lt (l : List Nd) : -1 ≤ starN l ∧ (0 ≤ starN l → 0 < l.length) := by
  unfold starN starI
  cases h : l.findIdx? (fun y => y.t.toList == [42]) with
  | none => simp
  | some k =>
    obtain ⟨hk, _⟩ := List.findIdx?_eq_some_iff_getElem.1 h
    exact ⟨by show -1 ≤ (k : Int); omega, fun _ => by omega⟩
set_option maxRecDepth 100000 in
set_option maxHeartbeats 4000000 in
theorem importStands_any (x : Nd) (w : World) (S : Nat → Prop) (v : Value) (hx : LAt w S v x.ks) (hl : x.ks.length ≤ 4194304) :
    Calls Tryz.prog 107 #[x.v v] w fun e w' => e = .returned (.bool (importS x)) ∧ Below w.heap.size w w' := by
  have hs := fun W (b : Below w.heap.size w W) => star_any x.ks W S v (hx.bel b) hl
  obtain ⟨ax, cx, bx, ox, fx, rfl, px, qx, rx⟩ := hx.op
  obtain ⟨sn1, sn2⟩ := starN_lt x.ks
  unfold importS Nd.v
  generalize starN x.ks = sn at *
  have e1 : Hid (∀ o W1, Below (w.alloc o).heap.size (w.alloc o) W1 → Below w.heap.size w W1 ∧ W1.heap[w.heap.size]? = some o) := fun o W1 b => ⟨(bel_a w o).trans (b.mono (by simp)), (b.block w.heap.size (by simp)).trans (hnew o rfl)⟩
  by_cases hneg : sn < 0
  · go_enter Tryz.func107, Tryz.ntmps107
    go_wp2_with (go_at_call 142; refine (hs _ (bel_a _ _)).mono ?_; rintro e W1 ⟨rfl, b1⟩; obtain ⟨b2, m2⟩ := e1.out _ _ b1; obtain ⟨⟨c0, c1, c2, c3⟩, _⟩ := box4 m2)
    all_goals go_ret
    all_goals exact ⟨ret_bool (by clear hs e1; simp_all), b2⟩
  · have hpos := sn2 (by omega)
    obtain ⟨rfl, hSx, hbx⟩ := px hpos
    have hd : x.ks[0].t.toList = [100, 101, 102, 97, 117, 108, 116] ↔ def0 x.ks = true := def0_get x.ks hpos
    have h4 : Hid (∀ W1, Below w.heap.size w W1 → W1.cell? ⟨bx, ox + 1, none⟩ = some (.string x.ks[0].t)) := fun W1 b => by
      have := ((qx 0 hpos).of_block (b.block bx hbx)).2.1
      simpa using this
    generalize x.ks[0].t = t0 at *
    generalize def0 x.ks = db at *
    have hd2 : (t0.toList == [100, 101, 102, 97, 117, 108, 116]) = db := by rw [Bool.eq_iff_iff]; simpa using hd
    clear hd sn2 px qx rx hSx hbx
    obtain ⟨lb, hlb⟩ : ∃ lb, (sn == (x.ks.length : Int) - 1) = lb := ⟨_, rfl⟩
    rw [hlb, if_neg hneg]
    by_cases h0 : sn = 0
    · subst h0
      clear hneg sn1
      cases lb
      all_goals
        go_enter Tryz.func107, Tryz.ntmps107
        go_wp2_with (go_at_call 142; refine (hs _ (bel_a _ _)).mono ?_; rintro e W1 ⟨rfl, b1⟩; obtain ⟨b2, m2⟩ := e1.out _ _ b1; obtain ⟨⟨c0, c1, c2, c3⟩, _⟩ := box4 m2; have h4' := h4.out _ b2)
        all_goals go_ret
        all_goals exact ⟨ret_bool (by clear hs; simp), b2⟩
    by_cases h1 : sn = 1
    · subst h1
      clear hneg sn1 h0
      cases lb <;> cases db
      all_goals
        go_enter Tryz.func107, Tryz.ntmps107
        go_wp2_with (go_at_call 142; refine (hs _ (bel_a _ _)).mono ?_; rintro e W1 ⟨rfl, b1⟩; obtain ⟨b2, m2⟩ := e1.out _ _ b1; obtain ⟨⟨c0, c1, c2, c3⟩, _⟩ := box4 m2; have h4' := h4.out _ b2)
        all_goals go_ret
        all_goals exact ⟨ret_bool (by clear hs; simp), b2⟩
    · cases lb
      all_goals
        go_enter Tryz.func107, Tryz.ntmps107
        go_wp2_with (go_at_call 142; refine (hs _ (bel_a _ _)).mono ?_; rintro e W1 ⟨rfl, b1⟩; obtain ⟨b2, m2⟩ := e1.out _ _ b1; obtain ⟨⟨c0, c1, c2, c3⟩, _⟩ := box4 m2; have h4' := h4.out _ b2)
        all_goals go_ret
        all_goals exact ⟨ret_bool (by clear hs; simp [h0, h1]), b2⟩

def exportS (mod : Bool) (x : Nd) : Bool :=
  if 0 ≤ starN x.ks then ((x.ks.length : Int) == 1) && (x.t.toList != []) && (x.n == 0)
  else (x.t.toList != []) || x.ks.all fun y => idT mod y.t
set_option maxHeartbeats 4000000 in
theorem export1_any (y : Nd) (W : World) (S : Nat → Prop) (v fv : Value) (mod : Bool) (FB : Nat) (hx : LAt W S v y.ks) (hw : WAt W fv) (hf : ∃ t, W.heap[FB]? = some (.cells #[fv, .bool mod] t (0, 0))) :
    Calls Tryz.prog 143 #[y.v v, .pointer (some ⟨FB, 0, none⟩)] W fun e W' => e = .returned (.bool (!idT mod y.t)) ∧ Below W.heap.size W W' := by
  have hi := fun W' (b : Below W.heap.size W W') => isId_any W' fv mod y.t (hw.bel b)
  obtain ⟨a, rfl⟩ : ∃ a, fv = .slice a 19 19 := by obtain ⟨bl, t, rfl, _⟩ := hw; exact ⟨_, rfl⟩
  obtain ⟨ax, cx, rfl⟩ := hx.sl
  obtain ⟨t, hf⟩ := hf
  have hFl := (Array.getElem?_eq_some_iff.1 hf).1
  have c0 : ∀ o, (W.alloc o).cell? ⟨FB, 0, none⟩ = some (.slice a 19 19) ∧ (W.alloc o).cell? ⟨FB, 1, none⟩ = some (.bool mod) := fun o => by
    have e := hold o hFl hf
    constructor <;> simp [World.cell?, e]
  have c1 := fun o => (c0 o).1
  have c2 := fun o => (c0 o).2
  clear c0
  unfold Nd.v
  unfold fmV at hi
  go_enter Tryz.func143, Tryz.ntmps143
  go_wp2_with (go_at_call 132; refine (hi _ (bel_a _ _)).mono ?_; rintro e W1 ⟨rfl, b1⟩)
  go_ret
  exact ⟨rfl, (bel_a _ _).trans (b1.mono (by simp))⟩

set_option maxRecDepth 100000 in
set_option maxHeartbeats 4000000 in
theorem exportStands_any (x : Nd) (w : World) (S : Nat → Prop) (v fv : Value) (mod : Bool) (hx : LAt w S v x.ks) (hl : x.ks.length ≤ 4194304) (hw : WAt w fv) :
    Calls Tryz.prog 108 #[fmV fv mod, x.v v] w fun e w' => e = .returned (.bool (exportS mod x)) ∧ Below w.heap.size w w' := by
  have hs := fun W (b : Below w.heap.size w W) => star_any x.ks W S v (hx.bel b) hl
  have hc := fun W (b : Below w.heap.size w W) (hf : ∃ t, W.heap[w.heap.size]? = some (.cells #[fv, .bool mod] t (0, 0))) => containsFunc_any W S x.ks v 143 #[.pointer (some ⟨w.heap.size, 0, none⟩)] (fun y => !idT mod y.t) (hx.bel b) hl (enters_of Tryz.func143 (by kernel_rfl) rfl)
    (fun y hy W' v' b' h => export1_any y W' S v' fv mod w.heap.size h (hw.bel (b.trans (b'.mono b.size))) (by obtain ⟨t, hf⟩ := hf; exact ⟨t, (b'.block _ (Array.getElem?_eq_some_iff.1 hf).1).trans hf⟩))
  obtain ⟨a, rfl⟩ : ∃ a, fv = .slice a 19 19 := by obtain ⟨bl, t, rfl, _⟩ := hw; exact ⟨_, rfl⟩
  obtain ⟨ax, cx, rfl⟩ := hx.sl
  have hall : (x.ks.all fun y => idT mod y.t) = !(x.ks.any fun y => !idT mod y.t) := by rw [List.not_any_eq_all_not]; simp
  unfold exportS Nd.v fmV
  rw [hall]
  clear hall
  generalize starN x.ks = sn at *
  generalize (x.ks.any fun y => !idT mod y.t) = an at *
  have e1 : ∀ o o' W1, Below ((w.alloc o).alloc o').heap.size ((w.alloc o).alloc o') W1 → Below w.heap.size w W1 ∧ W1.heap[w.heap.size]? = some o ∧ W1.heap[w.heap.size + 1]? = some o' := fun o o' W1 b => ⟨((bel_a w o).alloc (by simp) _).trans (b.mono (by simp; omega)), (b.block w.heap.size (by simp <;> omega)).trans (hold o' (by simp) (hnew o rfl)), (b.block (w.heap.size + 1) (by simp)).trans (hnew o' (by simp))⟩
  by_cases h0 : 0 ≤ sn
  · clear hc
    go_enter Tryz.func108, Tryz.ntmps108
    go_wp2_with (go_at_call 142; refine (hs _ ((bel_a _ _).alloc (by simp) _)).mono ?_; rintro e W1 ⟨rfl, b1⟩; obtain ⟨b2, m1, m2⟩ := e1 _ _ _ b1; obtain ⟨⟨c0, c1, c2, c3⟩, _⟩ := box4 m2)
    all_goals go_ret
    all_goals exact ⟨ret_bool (by clear hs e1; first | (simp_all; done) | (simp_all [bne]; done)), b2⟩
  · by_cases ht : x.t.toList = []
    · go_enter Tryz.func108, Tryz.ntmps108
      go_wp2_with (first
        | (go_at_call 142; refine (hs _ ((bel_a _ _).alloc (by simp) _)).mono ?_; rintro e W1 ⟨rfl, b1⟩; obtain ⟨b2, m1, m2⟩ := e1 _ _ _ b1; obtain ⟨⟨c0, c1, c2, c3⟩, _⟩ := box4 m2)
        | fail)
      refine (hc W1 b2 ⟨_, m1⟩).mono ?_
      rintro e W2 ⟨rfl, b3⟩
      go_wp2
      go_ret
      exact ⟨ret_bool (by simp [h0, ht]), b2.trans (b3.mono b2.size)⟩
    · clear hc
      have hte : x.t.toList.isEmpty = false := by simpa using ht
      go_enter Tryz.func108, Tryz.ntmps108
      go_wp2_with (go_at_call 142; refine (hs _ ((bel_a _ _).alloc (by simp) _)).mono ?_; rintro e W1 ⟨rfl, b1⟩; obtain ⟨b2, m1, m2⟩ := e1 _ _ _ b1; obtain ⟨⟨c0, c1, c2, c3⟩, _⟩ := box4 m2)
      go_ret
      exact ⟨ret_bool (by simp [h0, ht]), b2⟩
set_option maxHeartbeats 4000000 in
theorem inOrder1_any (x y : Nd) (W : World) (S : Nat → Prop) (v u : Value) (hx : LAt W S v x.ks) (hy : LAt W S u y.ks) (h1 : 43 ≤ x.k ∧ x.k ≤ 45) (h2 : 43 ≤ y.k ∧ y.k ≤ 45) :
    Calls Tryz.prog 141 #[x.v v, y.v u] W fun e W' => e = .returned (.int .i64 (x.k - y.k)) ∧ Below W.heap.size W W' := by
  obtain ⟨ax, cx, rfl⟩ := hx.sl
  obtain ⟨ay, cy, rfl⟩ := hy.sl
  obtain ⟨l1, l2⟩ := h1
  obtain ⟨l3, l4⟩ := h2
  unfold Nd.v
  go_enter Tryz.func141, Tryz.ntmps141
  go_wp2
  go_ret
  exact ⟨by first | rfl | (congr 2; simp [wrap64]; omega), (bel_a _ _).alloc (by simp) _⟩

theorem idx_nd (W : World) (bl o n c k : Nat) (h : k < n) : (Instr.indexAt 49 (.slice (some ⟨bl, o, none⟩) n c) (.int .i64 (k : Int))).run Tryz.prog W = .ok (.pointer (some ⟨bl, o + k * 4, none⟩)) W := by
  have h1 : ¬ (k : Int) < 0 := by omega
  have h2 : ¬ (n : Int) ≤ k := by omega
  have h3 : (k : Int) < n := by omega
  simp [Instr.indexAt, go_sem, run_underlying Tryz.underlying49, h, h1, h2, h3]
/-- the kinds rise from place j on. -/
def ordFrom (l : List Nd) (j : Int) : Prop := ∀ p (h : p + 1 < l.length), j ≤ (p : Int) → l[p].k ≤ l[p + 1].k
set_option maxRecDepth 100000 in
set_option maxHeartbeats 4000000 in
theorem isSorted_any (w : World) (S : Nat → Prop) (l : List Nd) (v : Value) (hx : LAt w S v l) (hl : l.length ≤ 4194304) (hb : ∀ y ∈ l, 43 ≤ y.k ∧ y.k ≤ 45) :
    Calls Tryz.prog 140 #[v, .func (.func 141) #[] #[]] w fun e w' => ∃ b : Bool, e = .returned (.bool b) ∧ (b = true ↔ ordFrom l 0) ∧ Below w.heap.size w w' := by
  obtain ⟨ax, cx, bx, ox, fx, rfl, px, qx, rx⟩ := hx.op
  go_enter Tryz.func140, Tryz.ntmps140
  go_wp2
  go_loopw [5] (fun i wr => ∃ j : Int, i = .int .i64 j ∧ -1 ≤ j ∧ j < l.length ∧ Below w.heap.size w wr ∧ Hid (ordFrom l j)) (fun i _ => (intOf i + 1).toNat)
  case atStart => exact ⟨(l.length : Int) - 1, rfl, by omega, by omega, Below.refl _ _, fun p hp h => by omega⟩
  case round =>
    obtain ⟨j, rfl, hj1, hj2, bel, HT⟩ := hrel
    by_cases hj : 0 < j
    · obtain ⟨q, rfl⟩ : ∃ q : Nat, j = (q : Int) + 1 := ⟨(j - 1).toNat, by omega⟩
      have hq1 : q + 1 < l.length := by omega
      have hq0 : q < l.length := by omega
      obtain ⟨rfl, hSx, hbx⟩ := px (by omega)
      have cell : ∀ W', Below wr.heap.size wr W' → (W'.cell? ⟨bx, ox + (q + 1) * 4, none⟩ = some (.int .i64 l[q + 1].k) ∧ W'.cell? ⟨bx, ox + (q + 1) * 4 + 1, none⟩ = some (.string l[q + 1].t) ∧ W'.cell? ⟨bx, ox + (q + 1) * 4 + 2, none⟩ = some (.int .i64 l[q + 1].n) ∧ W'.cell? ⟨bx, ox + (q + 1) * 4 + 3, none⟩ = some (fx (q + 1))) ∧
          (W'.cell? ⟨bx, ox + q * 4, none⟩ = some (.int .i64 l[q].k) ∧ W'.cell? ⟨bx, ox + q * 4 + 1, none⟩ = some (.string l[q].t) ∧ W'.cell? ⟨bx, ox + q * 4 + 2, none⟩ = some (.int .i64 l[q].n) ∧ W'.cell? ⟨bx, ox + q * 4 + 3, none⟩ = some (fx q)) := fun W' b => by
        have b2 := bel.trans (b.mono bel.size)
        exact ⟨(kid_at (qx (q + 1) hq1) (rx (q + 1) hq1) hbx b2).1, (kid_at (qx q hq0) (rx q hq0) hbx b2).1⟩
      have g1 := (kid_at (qx (q + 1) hq1) (rx (q + 1) hq1) hbx bel.drew).2
      have g0 := (kid_at (qx q hq0) (rx q hq0) hbx bel.drew).2
      have hst := cell wr.drew (Below.refl _ _).drew
      have cmp := inOrder1_any l[q + 1] l[q] wr.drew S _ _ g1 g0 (hb _ (List.getElem_mem hq1)) (hb _ (List.getElem_mem hq0))
      have HY : Hid (l[q].k ≤ l[q + 1].k → ordFrom l q) := fun h p hp hpj => by
        by_cases e : p = q
        · subst e; exact h
        · exact HT.out p hp (by omega)
      have HN : Hid (¬ l[q].k ≤ l[q + 1].k → ¬ ordFrom l 0) := fun h h0 => h (h0 q hq1 (by omega))
      obtain ⟨b1a, b1b⟩ := hb _ (List.getElem_mem hq1)
      obtain ⟨b0a, b0b⟩ := hb _ (List.getElem_mem hq0)
      obtain ⟨a1, c1, e1⟩ := g1.sl
      obtain ⟨a0, c0, e0⟩ := g0.sl
      have i1 := fun W => idx_nd W bx ox l.length cx (q + 1) hq1
      have e11 : ((q + 1 : Nat) : Int) = (q : Int) + 1 := by omega
      rw [e11] at i1
      have i0 := fun W => idx_nd W bx ox l.length cx q hq0
      have hw1 : IntKind.i64.wrap (q : Int) = q := by rw [IntKind.wrap_i64]; omega
      have hw2 : IntKind.i64.wrap ((q : Int) + 1 - 1) = q := by rw [IntKind.wrap_i64]; omega
      clear HT hb qx rx px e11
      generalize l[q + 1] = y1 at *
      generalize l[q] = y0 at *
      generalize fx (q + 1) = f1 at *
      generalize fx q = f0 at *
      subst e1 e0
      go_wp2_with fail
      go_region_held3 (fun W' => (W'.cell? ⟨bx, ox + (q + 1) * 4, none⟩ = some (.int .i64 y1.k) ∧ W'.cell? ⟨bx, ox + (q + 1) * 4 + 1, none⟩ = some (.string y1.t) ∧ W'.cell? ⟨bx, ox + (q + 1) * 4 + 2, none⟩ = some (.int .i64 y1.n) ∧ W'.cell? ⟨bx, ox + (q + 1) * 4 + 3, none⟩ = some (.slice a1 y1.ks.length c1)) ∧
          (W'.cell? ⟨bx, ox + q * 4, none⟩ = some (.int .i64 y0.k) ∧ W'.cell? ⟨bx, ox + q * 4 + 1, none⟩ = some (.string y0.t) ∧ W'.cell? ⟨bx, ox + q * 4 + 2, none⟩ = some (.int .i64 y0.n) ∧ W'.cell? ⟨bx, ox + q * 4 + 3, none⟩ = some (.slice a0 y0.ks.length c0)))
        (first | assumption | exact hst | exact hst2)
        (first
          | (go_at_call 141; refine cmp.mono ?_; rintro e W1 ⟨rfl, b1⟩; have hst2 := cell W1 ((Below.refl _ _).drew.trans b1)))
      have bel1 : Below w.heap.size w W1 := bel.drew.trans (b1.mono bel.size)
      clear hst hst2 cell cmp g1 g0
      by_cases hle : y0.k ≤ y1.k
      · have HT' : Hid (ordFrom l q) := HY.out hle
        have hlt : ¬ y1.k - y0.k < 0 := by omega
        clear HY HN
        go_wp2
        go_roundw
        case rel => exact ⟨q, by simp, by omega, by omega, bel1, HT'⟩
        case measure => simp [intOf]; omega
      · have HF : Hid (¬ ordFrom l 0) := HN.out (by omega)
        have hlt : y1.k - y0.k < 0 := by omega
        clear HY HN
        go_wp2
        go_ret
        first | exact ⟨false, rfl, by simp [HF.out], bel1⟩ | exact .inl ⟨rfl, HF.out, bel1⟩
    · have HE : Hid (ordFrom l 0) := fun p hp _ => HT.out p hp (by omega)
      clear HT hb
      have hj' : ¬ 0 < j := hj
      go_wp2
      go_ret
      first | exact .inr ⟨rfl, HE.out, bel⟩ | exact ⟨true, rfl, by simp [HE.out], bel⟩
theorem inOrder_any (w : World) (S : Nat → Prop) (l : List Nd) (v : Value) (hx : LAt w S v l) (hl : l.length ≤ 4194304) (hb : ∀ y ∈ l, 43 ≤ y.k ∧ y.k ≤ 45) :
    Calls Tryz.prog 106 #[v] w fun e w' => ∃ b : Bool, e = .returned (.bool b) ∧ (b = true ↔ ordFrom l 0) ∧ Below w.heap.size w w' := by
  have hi := isSorted_any w S l v hx hl hb
  clear hb
  go_enter Tryz.func106, Tryz.ntmps106
  go_wp2_with (go_at_call 140; refine hi.mono ?_; rintro e w' ⟨b, rfl, hb, b1⟩)
  go_ret
  exact ⟨b, rfl, hb, b1⟩
end Go.Proofs.YtpnljjcdlkjfhaaGreatDoor
