/- Own text. A map in memory as a function: keys and elements of whatever kind. Trees, and how they lie in memory. Whether two trees are the same: the document's answer. How many trees one is, and how deep: the document's answers, and Depth of package tree. -/
import Derived.Test.YtdpajlopdgapeaaGreatDoorProg
import Derived.WalkKit
import Derived.WalkSmall
import Derived.WalkLawsBesides
import Derived.Laws.Rows
import Derived.Maps.Own
import Derived.Laws.StructEq
import Derived.Test.YtdpajlopdgapeaaGreatDoorChecked
import Derived.Maps.AppendAt
import Derived.Deep.RegionHeld3
import Derived.Handy
namespace Go.Proofs.YtdpajlopdgapeaaGreatDoor
open Go.RowKit Go.Maps Go.ChangeMaps
set_option linter.unusedVariables false
set_option linter.unusedSimpArgs false

/-- keys that are compared at once. -/
structure KeyOk {κ : Type} (P : Program) (t : TypeId) (ek : κ → Value) (G : κ → Prop) : Prop where
  inj : ∀ {a b : κ}, ek a = ek b → a = b
  check : ∀ (w : World) (em : Bool) {k : κ}, G k → (Instr.checkKey em 10000 t (ek k)).run P w = .ok () w
  find : ∀ (w : World) {x : κ}, G x → ∀ es : List MapEntry, (∀ e ∈ es, ∃ k, G k ∧ e.key = ek k) → ((Instr.findKey t (ek x) es).run P w = .ok none w ∧ ∀ e ∈ es, e.key ≠ ek x) ∨ ∃ j e, (Instr.findKey t (ek x) es).run P w = .ok (some (j, e.val)) w ∧ es[j]? = some e ∧ e.key = ek x
  stays : ∀ (w : World) {k : κ}, G k → (Instr.keyThatStays (ek k) (ek k)).run P w = .ok (ek k) w
theorem KeyOk.of {κ : Type} {P : Program} {t : TypeId} (K : Keyed P t) {ek : κ → Value} {G : κ → Prop} (hi : ∀ {a b : κ}, ek a = ek b → a = b) (h : ∀ k, G k → ∃ l, keyOf P t (ek k) = some l) : KeyOk P t ek G where
  inj := hi
  check w em k hk := by obtain ⟨l, hl⟩ := h k hk; exact K.check w em hl
  find w x hx es hes := by
    obtain ⟨l, hl⟩ := h x hx
    exact K.find w hl es fun e he => by obtain ⟨k, hk, e1⟩ := hes e he; rw [e1]; exact h k hk
  stays w k hk := by obtain ⟨l, hl⟩ := h k hk; exact K.stays w hl

/-- block b is a map of at most n entries, and under k stands f k. -/
def MF {κ υ : Type} (G : κ → Prop) (ek : κ → Value) (ev : υ → Value) (w : World) (b n : Nat) (f : κ → Option υ) : Prop :=
  ∃ es clock, w.heap[b]? = some (.map es clock) ∧ es.size ≤ n ∧ (∀ e ∈ es.toList, ∃ k v, G k ∧ e.key = ek k ∧ e.val = ev v ∧ f k = some v) ∧ (∀ k v, f k = some v → ∃ e ∈ es.toList, e.key = ek k ∧ e.val = ev v) ∧ es.toList.Pairwise (fun x y => x.key ≠ y.key)
section
variable {κ υ : Type} {G : κ → Prop} {ek : κ → Value} {ev : υ → Value} {w w' : World} {b n : Nat} {f : κ → Option υ} {P : Program} {t tk te : TypeId}
theorem MF.keep (h : MF G ek ev w b n f) (e : w'.heap[b]? = w.heap[b]?) : MF G ek ev w' b n f := by
  obtain ⟨es, clock, hb, r⟩ := h
  exact ⟨es, clock, e.trans hb, r⟩
theorem MF.lt (h : MF G ek ev w b n f) : b < w.heap.size := by
  obtain ⟨es, clock, hb, r⟩ := h
  exact (Array.getElem?_eq_some_iff.1 hb).1
theorem MF.nil (w : World) : MF G ek ev (w.alloc (.map #[] 0)) w.heap.size 0 (fun _ => none) :=
  ⟨#[], 0, heap_alloc_new w _, Nat.le_refl _, by simp, by simp, by simp⟩
theorem MF.mono (h : MF G ek ev w b n f) {m : Nat} (hm : n ≤ m) : MF G ek ev w b m f := by
  obtain ⟨es, clock, hb, hs, r⟩ := h
  exact ⟨es, clock, hb, Nat.le_trans hs hm, r⟩
theorem MF.look (h : MF G ek ev w b n f) (K : KeyOk P tk ek G) (ht : P.underlying t = some (.map tk te)) {z : Value} (hz : (zeroValue te).run P w = .ok z w) (k : κ) (hk : G k) (c : Bool) :
    (Instr.lookup t (.map (some b)) (ek k) c).run P w = .ok (if c then .tuple #[((f k).map ev).getD z, .bool (f k).isSome] else ((f k).map ev).getD z) w := by
  obtain ⟨es, clock, hb, hs, h1, h2, h3⟩ := h
  rcases K.find w hk es.toList (fun e he => by obtain ⟨k', v, a, b, _⟩ := h1 e he; exact ⟨k', a, b⟩) with ⟨r1, r2⟩ | ⟨j, e0, r1, r2, r3⟩
  · have hf : f k = none := by
      cases hfk : f k with
      | none => rfl
      | some v =>
        obtain ⟨e, he, ee, _⟩ := h2 k v hfk
        exact absurd ee (r2 e he)
    rw [hf]
    simp [Instr.lookup, run_underlying ht, MapKept.run_getObj_map hb, K.check w _ hk, r1, hz, Result.andThen]
  · have hm0 : e0 ∈ es.toList := List.mem_of_getElem? r2
    obtain ⟨k', v, _, e1, e2, e3⟩ := h1 e0 hm0
    have : k' = k := K.inj (e1.symm.trans r3)
    subst this
    rw [e3]
    simp [Instr.lookup, run_underlying ht, MapKept.run_getObj_map hb, K.check w _ hk, r1, Result.andThen, e2]
/-- an element more. -/
def upd [DecidableEq κ] (f : κ → Option υ) (k : κ) (v : υ) : κ → Option υ := fun x => if x = k then some v else f x
theorem pairwise_set {l : List MapEntry} (h : l.Pairwise (fun x y => x.key ≠ y.key)) {j : Nat} {e0 e1 : MapEntry} (h2 : l[j]? = some e0) (hk : e1.key = e0.key) : (l.set j e1).Pairwise (fun x y => x.key ≠ y.key) := by
  have hm : (l.set j e1).map (·.key) = l.map (·.key) := by
    apply List.ext_getElem?
    intro i
    rw [List.getElem?_map, List.getElem?_map, List.getElem?_set]
    split
    · subst_vars
      have hj := (List.getElem?_eq_some_iff.1 h2).1
      simp [h2, hk, hj]
      have := (List.getElem?_eq_some_iff.1 h2).2
      rw [this]
    · rfl
  have h' : (l.map (·.key)).Pairwise (· ≠ ·) := List.pairwise_map.2 h
  rw [← hm] at h'
  exact List.pairwise_map.1 h'
theorem MF.update [DecidableEq κ] (h : MF G ek ev w b n f) (K : KeyOk P tk ek G) (ht : P.underlying t = some (.map tk te)) (k : κ) (hk : G k) (v : υ) :
    ∃ w', (Instr.mapUpdate t (.map (some b)) (ek k) (ev v)).run P w = .ok () w' ∧ MF G ek ev w' b (n + 1) (upd f k v) ∧ w.grownBy w' (some b) := by
  obtain ⟨es, clock, hb, hs, h1, h2, h3⟩ := h
  have gr : ∀ o, w.grownBy (setBlock w b o) (some b) := fun o => ⟨rfl, rfl, rfl, by simp [setBlock], fun i _ hi => heap_setBlock_other hb _ (fun e => hi (by rw [e]))⟩
  rcases K.find w hk es.toList (fun e he => by obtain ⟨k', v, a, b, _⟩ := h1 e he; exact ⟨k', a, b⟩) with ⟨r1, r2⟩ | ⟨j, e0, r1, r2, r3⟩
  · refine ⟨setBlock w b (.map (es.push ⟨ek k, ev v, clock⟩) (clock + 1)), ?_, ⟨_, _, heap_setBlock_same hb _, by simp; omega, ?_, ?_, ?_⟩, gr _⟩
    · simp [Instr.mapUpdate, run_underlying ht, MapKept.run_getObj_map hb, K.check w false hk, r1, MapKept.run_setObj_map _ hb, Result.andThen, setBlock]
    · intro e he
      simp only [Array.toList_push, List.mem_append, List.mem_singleton] at he
      rcases he with he | rfl
      · obtain ⟨k', v', a, b, c, d⟩ := h1 e he
        refine ⟨k', v', a, b, c, ?_⟩
        unfold upd
        rw [if_neg (fun e' => r2 e he (by rw [b, e'])), d]
      · exact ⟨k, v, hk, rfl, rfl, by simp [upd]⟩
    · intro k' v' hf
      unfold upd at hf
      simp only [Array.toList_push, List.mem_append, List.mem_singleton]
      split at hf
      · rename_i e; subst e
        cases hf
        exact ⟨_, Or.inr rfl, rfl, rfl⟩
      · obtain ⟨e, he, r⟩ := h2 k' v' hf
        exact ⟨e, Or.inl he, r⟩
    · simp only [Array.toList_push]
      refine List.pairwise_append.2 ⟨h3, by simp, fun x hx y hy => ?_⟩
      simp only [List.mem_singleton] at hy
      subst hy
      exact r2 x hx
  · have hj : es[j]? = some e0 := by simpa using r2
    have hjl : j < es.toList.length := (List.getElem?_eq_some_iff.1 r2).1
    have hlist : (es.modify j (fun e' => { e' with key := ek k, val := ev v })).toList = es.toList.set j { e0 with key := ek k, val := ev v } := by rw [Array.toList_modify, modify_eq_set _ _ _ _ r2]
    refine ⟨setBlock w b (.map (es.modify j (fun e' => { e' with key := ek k, val := ev v })) clock), ?_, ⟨_, _, heap_setBlock_same hb _, by simp; omega, ?_, ?_, ?_⟩, gr _⟩
    · simp [Instr.mapUpdate, run_underlying ht, MapKept.run_getObj_map hb, K.check w false hk, r1, hj, r3, K.stays w hk, MapKept.run_setObj_map _ hb, Result.andThen, setBlock]
    · intro e he
      rw [hlist] at he
      obtain ⟨i, hi, ex⟩ := List.getElem_of_mem he
      rw [List.getElem_set] at ex
      split at ex
      · subst ex
        exact ⟨k, v, hk, rfl, rfl, by simp [upd]⟩
      · rename_i hne
        have hi' : i < es.toList.length := by simpa using hi
        have hm : e ∈ es.toList := ex ▸ List.getElem_mem hi'
        obtain ⟨k', v', a, b, c, d⟩ := h1 e hm
        refine ⟨k', v', a, b, c, ?_⟩
        unfold upd
        rw [if_neg (fun e' => ?_), d]
        have hp := List.pairwise_iff_getElem.1 h3
        have ej : es.toList[j] = e0 := (List.getElem?_eq_some_iff.1 r2).2
        have hk1 : e.key = e0.key := by rw [b, e', r3]
        rcases Nat.lt_or_gt_of_ne hne with hlt | hlt
        · exact hp j i hjl hi' hlt (by rw [ej, ex, hk1])
        · exact hp i j hi' hjl hlt (by rw [ej, ex, hk1])
    · intro k' v' hf
      rw [hlist]
      unfold upd at hf
      split at hf
      · rename_i e; subst e
        cases hf
        exact ⟨{ e0 with key := ek k', val := ev v }, List.mem_iff_getElem.2 ⟨j, by simpa using hjl, by simp⟩, rfl, rfl⟩
      · rename_i hne
        obtain ⟨e, he, r⟩ := h2 k' v' hf
        obtain ⟨i, hi, ex⟩ := List.getElem_of_mem he
        refine ⟨e, List.mem_iff_getElem.2 ⟨i, by simpa using hi, ?_⟩, r⟩
        rw [List.getElem_set]
        split
        · rename_i e; subst e
          have ej : es.toList[j] = e0 := (List.getElem?_eq_some_iff.1 r2).2
          exact absurd (K.inj (r.1.symm.trans ((by rw [← ex, ej] : e.key = e0.key).trans r3))) hne
        · exact ex
    · rw [hlist]
      exact pairwise_set h3 r2 (by simp [r3])
theorem wpList_mf [DecidableEq κ] (w : World) {ops : Array Oper} {rest : List Oper} {o : Oper} {a : Act} {Q : Exit → Act → World → Prop}
    (hg : o.guard = none) (m x v : Operand) (t : TypeId) (hop : o.op = Op.mapUpdate t m x v) {tk te : TypeId} (K : KeyOk P tk ek G) (ht : P.underlying t = some (.map tk te)) (b n : Nat) (f : κ → Option υ)
    (hm : a.eval m = .map (some b)) (hown : MF G ek ev w b n f) (k : κ) (hk : G k) (y : υ) (hx : a.eval x = ek k) (hv : a.eval v = ev y)
    (hK : ∀ w', MF G ek ev w' b (n + 1) (upd f k y) → w.grownBy w' (some b) → wpList P ops Q rest (a.put o.dst undef) w') :
    wpList P ops Q (o :: rest) a w := by
  refine wpList_plain hg fun K' hK' => ?_
  obtain ⟨w', hrun, r1, r2⟩ := hown.update K ht k hk y
  unfold Oper.wp
  simp [execOp, hop, hm, hx, hv, hrun, Result.andThen]
  exact hK' _ _ (hK w' r1 r2)
end
end Go.Proofs.YtdpajlopdgapeaaGreatDoor
namespace Go.Proofs.YtdpajlopdgapeaaGreatDoor
open Go.RowKit
set_option linter.unusedVariables false

/-- a tree: kind, text, number, kids. -/
inductive Nd where
  | mk (k : Int) (t : ByteArray) (n : Int) (ks : List Nd)
def Nd.k : Nd → Int | .mk k _ _ _ => k
def Nd.t : Nd → ByteArray | .mk _ t _ _ => t
def Nd.n : Nd → Int | .mk _ _ n _ => n
def Nd.ks : Nd → List Nd | .mk _ _ _ ks => ks
theorem Nd.eta : ∀ x : Nd, x = .mk x.k x.t x.n x.ks
  | .mk _ _ _ _ => rfl
theorem Nd.ext' {x y : Nd} (h1 : x.k = y.k) (h2 : x.t = y.t) (h3 : x.n = y.n) (h4 : x.ks = y.ks) : x = y := by
  cases x; cases y
  simp only [Nd.k, Nd.t, Nd.n, Nd.ks] at h1 h2 h3 h4
  subst h1 h2 h3 h4
  rfl
theorem Nd.ind {P : Nd → Prop} (h : ∀ x : Nd, (∀ y ∈ x.ks, P y) → P x) (x : Nd) : P x :=
  @Nd.rec P (fun ks => ∀ y ∈ ks, P y) (fun k t n ks ih => h (.mk k t n ks) ih) (fun y hy => by cases hy)
    (fun x xs hx hxs y hy => by
      rcases List.mem_cons.1 hy with rfl | hy
      · exact hx
      · exact hxs y hy) x

mutual
def Nd.size : Nd → Nat
  | .mk _ _ _ ks => 1 + sizes ks
def sizes : List Nd → Nat
  | [] => 0
  | x :: xs => x.size + sizes xs
end
mutual
def Nd.depth : Nd → Nat
  | .mk _ _ _ ks => 1 + depths ks
def depths : List Nd → Nat
  | [] => 0
  | x :: xs => max x.depth (depths xs)
end
mutual
def Nd.flat : Nd → List Nd
  | .mk k t n ks => .mk k t n ks :: flats ks
def flats : List Nd → List Nd
  | [] => []
  | x :: xs => x.flat ++ flats xs
end
mutual
/-- m in the place i of a tree, or of a row of trees. -/
def Nd.repl : Nd → Nat → Nd → Nd
  | .mk k t n ks, i, m => if i = 0 then m else .mk k t n (repls ks (i - 1) m)
def repls : List Nd → Nat → Nd → List Nd
  | [], _, _ => []
  | x :: xs, i, m => if i < x.size then x.repl i m :: xs else x :: repls xs (i - x.size) m
end

theorem Nd.size_eq (x : Nd) : x.size = 1 + sizes x.ks := by cases x; rw [Nd.size]; rfl
theorem Nd.depth_eq (x : Nd) : x.depth = 1 + depths x.ks := by cases x; rw [Nd.depth]; rfl
theorem Nd.flat_eq (x : Nd) : x.flat = x :: flats x.ks := by cases x; rw [Nd.flat]; rfl
theorem sizes_nil : sizes [] = 0 := by rw [sizes]
theorem sizes_cons (x : Nd) (xs : List Nd) : sizes (x :: xs) = x.size + sizes xs := by rw [sizes]
theorem depths_nil : depths [] = 0 := by rw [depths]
theorem depths_cons (x : Nd) (xs : List Nd) : depths (x :: xs) = max x.depth (depths xs) := by rw [depths]
theorem flats_nil : flats [] = [] := by rw [flats]
theorem flats_cons (x : Nd) (xs : List Nd) : flats (x :: xs) = x.flat ++ flats xs := by rw [flats]
theorem Nd.size_pos (x : Nd) : 1 ≤ x.size := by rw [Nd.size_eq]; omega
theorem sizes_append : ∀ a b : List Nd, sizes (a ++ b) = sizes a + sizes b
  | [], b => by simp [sizes_nil]
  | x :: a, b => by rw [List.cons_append, sizes_cons, sizes_cons, sizes_append a b]; omega
theorem flats_append : ∀ a b : List Nd, flats (a ++ b) = flats a ++ flats b
  | [], b => by simp [flats_nil]
  | x :: a, b => by rw [List.cons_append, flats_cons, flats_cons, flats_append a b, List.append_assoc]
theorem depths_append : ∀ a b : List Nd, depths (a ++ b) = max (depths a) (depths b)
  | [], b => by simp [depths_nil]
  | x :: a, b => by rw [List.cons_append, depths_cons, depths_cons, depths_append a b, Nat.max_assoc]
theorem sizes_len : ∀ l : List Nd, l.length ≤ sizes l
  | [] => by simp
  | x :: l => by rw [sizes_cons, List.length_cons]; have := x.size_pos; have := sizes_len l; omega
theorem sizes_mem : ∀ {l : List Nd} {x : Nd}, x ∈ l → x.size ≤ sizes l
  | y :: l, x, h => by
    rw [sizes_cons]
    rcases List.mem_cons.1 h with rfl | h
    · omega
    · have := sizes_mem h; omega
theorem flats_len : ∀ l : List Nd, (∀ x ∈ l, x.flat.length = x.size) → (flats l).length = sizes l
  | [], _ => by rw [flats_nil, sizes_nil]; rfl
  | x :: l, h => by rw [flats_cons, sizes_cons, List.length_append, h x (by simp), flats_len l (fun y hy => h y (by simp [hy]))]
theorem Nd.flat_len (x : Nd) : x.flat.length = x.size := by
  induction x using Nd.ind with
  | h x ih => rw [Nd.flat_eq, Nd.size_eq, List.length_cons, flats_len _ ih]; omega
theorem Nd.kid_size (x : Nd) {i : Nat} (h : i < x.ks.length) : x.ks[i].size < x.size := by
  have := sizes_mem (List.getElem_mem h)
  rw [x.size_eq]; omega
theorem take_sizes (l : List Nd) {i : Nat} (h : i < l.length) : sizes (l.take (i + 1)) = sizes (l.take i) + l[i].size := by
  rw [List.take_succ_eq_append_getElem h, sizes_append, sizes_cons, sizes_nil]; omega
theorem take_depths (l : List Nd) {i : Nat} (h : i < l.length) : depths (l.take (i + 1)) = max (depths (l.take i)) l[i].depth := by
  rw [List.take_succ_eq_append_getElem h, depths_append, depths_cons, depths_nil, Nat.max_zero]
theorem take_flats (l : List Nd) {i : Nat} (h : i < l.length) : flats (l.take (i + 1)) = flats (l.take i) ++ l[i].flat := by
  rw [List.take_succ_eq_append_getElem h, flats_append, flats_cons, flats_nil, List.append_nil]
theorem take_sizes_le (l : List Nd) (i : Nat) : sizes (l.take i) ≤ sizes l := by
  have : sizes (l.take i ++ l.drop i) = sizes l := by rw [List.take_append_drop]
  rw [sizes_append] at this
  omega
theorem depths_le : ∀ l : List Nd, (∀ x ∈ l, x.depth ≤ x.size) → depths l ≤ sizes l
  | [], _ => by simp [depths_nil]
  | x :: l, h => by
    rw [depths_cons, sizes_cons]
    have := h x (by simp)
    have := depths_le l (fun y hy => h y (by simp [hy]))
    omega
theorem Nd.depth_le (x : Nd) : x.depth ≤ x.size := by
  induction x using Nd.ind with
  | h x ih => rw [Nd.depth_eq, Nd.size_eq]; have := depths_le _ ih; omega

/-- the value of a tree whose kids are the list v. -/
def Nd.v (x : Nd) (v : Value) : Value := .agg #[.int .i64 x.k, .string x.t, .int .i64 x.n, v]
/-- the four cells from an address on hold that tree. -/
def Four (w : World) (b o : Nat) (x : Nd) (v : Value) : Prop :=
  w.cell? ⟨b, o, none⟩ = some (.int .i64 x.k) ∧ w.cell? ⟨b, o + 1, none⟩ = some (.string x.t) ∧ w.cell? ⟨b, o + 2, none⟩ = some (.int .i64 x.n) ∧ w.cell? ⟨b, o + 3, none⟩ = some v
theorem Four.of_block {w w' : World} {b o : Nat} {x : Nd} {v : Value} (h : Four w b o x v) (e : w'.heap[b]? = w.heap[b]?) : Four w' b o x v :=
  ⟨(World.cell?_of_block (a := ⟨b, _, none⟩) e).trans h.1, (World.cell?_of_block (a := ⟨b, _, none⟩) e).trans h.2.1, (World.cell?_of_block (a := ⟨b, _, none⟩) e).trans h.2.2.1, (World.cell?_of_block (a := ⟨b, _, none⟩) e).trans h.2.2.2⟩
theorem Four.lt {w : World} {b o : Nat} {x : Nd} {v : Value} (h : Four w b o x v) : b < w.heap.size := World.block_lt_of_cell? w _ h.1

/-- v is a list of these trees; its memory, and theirs, lies in blocks of S. -/
inductive LAt (w : World) (S : Nat → Prop) : Value → List Nd → Prop
  | nil (a : Option Addr) (c : Nat) : LAt w S (.slice a 0 c) []
  | row (bl o c : Nat) (ks : List Nd) (f : Nat → Value) (hS : S bl) (hb : bl < w.heap.size) (h4 : ∀ i (h : i < ks.length), Four w bl (o + i * 4) ks[i] (f i))
      (hk : ∀ i (h : i < ks.length), LAt w S (f i) ks[i].ks) : LAt w S (.slice (some ⟨bl, o, none⟩) ks.length c) ks

theorem LAt.op {w : World} {S : Nat → Prop} {v : Value} {ks : List Nd} (h : LAt w S v ks) : ∃ (a : Option Addr) (c bl o : Nat) (f : Nat → Value), v = .slice a ks.length c ∧
    (0 < ks.length → a = some ⟨bl, o, none⟩ ∧ S bl ∧ bl < w.heap.size) ∧ (∀ i (h : i < ks.length), Four w bl (o + i * 4) ks[i] (f i)) ∧ (∀ i (h : i < ks.length), LAt w S (f i) ks[i].ks) := by
  cases h with
  | nil a c => exact ⟨a, c, 0, 0, fun _ => default, rfl, fun h => by simp at h, fun i h => by simp at h, fun i h => by simp at h⟩
  | row bl o c ks f hS hb h4 hk => exact ⟨_, c, bl, o, f, rfl, fun _ => ⟨rfl, hS, hb⟩, h4, hk⟩
theorem LAt.keep {w w' : World} {S : Nat → Prop} {v : Value} {ks : List Nd} (h : LAt w S v ks) (hs : w.heap.size ≤ w'.heap.size) (hb : ∀ b, S b → b < w.heap.size → w'.heap[b]? = w.heap[b]?) : LAt w' S v ks := by
  induction h with
  | nil a c => exact .nil a c
  | row bl o c ks f hS hl h4 hk ih => exact .row bl o c ks f hS (by omega) (fun i hi => (h4 i hi).of_block (hb bl hS hl)) ih
theorem LAt.bel {w w' : World} {S : Nat → Prop} {v : Value} {ks : List Nd} (h : LAt w S v ks) (k : Below w.heap.size w w') : LAt w' S v ks := h.keep k.size (fun b _ hb => k.block b hb)
theorem LAt.mono {w : World} {S T : Nat → Prop} {v : Value} {ks : List Nd} (h : LAt w S v ks) (hT : ∀ b, S b → T b) : LAt w T v ks := by
  induction h with
  | nil a c => exact .nil a c
  | row bl o c ks f hS hl h4 hk ih => exact .row bl o c ks f (hT bl hS) hl h4 ih

theorem bytes_eq {a b : ByteArray} : a = b ↔ a.toList = b.toList := by
  constructor
  · rintro rfl; rfl
  · intro h
    have e : ∀ s : ByteArray, s.toList = s.data.toList := fun s => ByteArray.toList_eq s
    rw [e, e] at h
    cases a; cases b
    congr
    exact Array.toList_inj.1 h
end Go.Proofs.YtdpajlopdgapeaaGreatDoor
namespace Go.Proofs.YtdpajlopdgapeaaGreatDoor
open Go.RowKit
set_option linter.unusedVariables false

set_option maxHeartbeats 4000000 in
theorem rsame_any (x : Nd) : ∀ (y : Nd) (w : World) (S T : Nat → Prop) (vx vy : Value), LAt w S vx x.ks → LAt w T vy y.ks → x.size ≤ 4194304 → y.size ≤ 4194304 →
    Calls Tryz.prog 9 #[x.v vx, y.v vy] w fun e w' => ∃ b : Bool, e = .returned (.bool b) ∧ (b = true ↔ x = y) ∧ Below w.heap.size w w' := by
  induction x using Nd.ind with
  | h x ih =>
    intro y w S T vx vy hx hy zx zy
    obtain ⟨ax, cx, bx, ox, fx, rfl, px, qx, rx⟩ := hx.op
    obtain ⟨ay, cy, b', oy, fy, rfl, py, qy, ry⟩ := hy.op
    have lx : x.ks.length ≤ 4194304 := by have := sizes_len x.ks; rw [x.size_eq] at zx; omega
    have ly : y.ks.length ≤ 4194304 := by have := sizes_len y.ks; rw [y.size_eq] at zy; omega
    have no : ∀ w', Below w.heap.size w w' → ¬ x = y → ∃ b : Bool, (Ending.returned (.bool false)) = .returned (.bool b) ∧ (b = true ↔ x = y) ∧ Below w.heap.size w w' := fun w' hb hn => ⟨false, rfl, by simp [hn], hb⟩
    unfold Nd.v
    by_cases h1 : x.k = y.k
    case neg =>
      go_enter Tryz.func9, Tryz.ntmps9
      go_wp2
      go_ret
      exact no _ (((Below.refl _ w).alloc (Nat.le_refl _) _).alloc (by simp) _) (fun e => h1 (by rw [e]))
    by_cases h2 : x.t.toList = y.t.toList
    case neg =>
      go_enter Tryz.func9, Tryz.ntmps9
      go_wp2
      go_ret
      exact no _ (((Below.refl _ w).alloc (Nat.le_refl _) _).alloc (by simp) _) (fun e => h2 (by rw [e]))
    by_cases h3 : x.n = y.n
    case neg =>
      go_enter Tryz.func9, Tryz.ntmps9
      go_wp2
      go_ret
      exact no _ (((Below.refl _ w).alloc (Nat.le_refl _) _).alloc (by simp) _) (fun e => h3 (by rw [e]))
    by_cases h4 : x.ks.length = y.ks.length
    case neg =>
      go_enter Tryz.func9, Tryz.ntmps9
      go_wp2
      go_ret
      exact no _ (((Below.refl _ w).alloc (Nat.le_refl _) _).alloc (by simp) _) (fun e => h4 (by rw [e]))
    rw [h1, h3, h4]
    have H1 : Hid (x.k = y.k) := h1
    have H3 : Hid (x.n = y.n) := h3
    clear h1 h3
    go_enter Tryz.func9, Tryz.ntmps9
    go_wp2
    have hb2 : Below w.heap.size w ((w.alloc (Obj.cells #[Value.int IntKind.i64 y.k, Value.string x.t, Value.int IntKind.i64 y.n, Value.slice ax y.ks.length cx] 24)).alloc (Obj.cells #[Value.int IntKind.i64 y.k, Value.string y.t, Value.int IntKind.i64 y.n, Value.slice ay y.ks.length cy] 24)) :=
      ((Below.refl _ w).alloc (Nat.le_refl _) _).alloc (by simp) _
    go_loopw [5] (fun i wr => ∃ k : Nat, i = .int .i64 (k : Nat) ∧ k ≤ y.ks.length ∧ Below w.heap.size w wr ∧ w.heap.size + 2 ≤ wr.heap.size ∧ wr.cell? ⟨w.heap.size, 3, none⟩ = some (.slice ax y.ks.length cx) ∧ wr.cell? ⟨w.heap.size + 1, 3, none⟩ = some (.slice ay y.ks.length cy) ∧ Hid (x.ks.take k = y.ks.take k)) (fun i _ => y.ks.length - (intOf i).toNat)
    case atStart => exact ⟨0, rfl, by omega, hb2, by simp, by simp, by simp, by simp [Hid]⟩
    case round =>
      obtain ⟨k, rfl, hk, bel, sz, c1, c2, HT⟩ := hrel
      by_cases hky : k < y.ks.length
      · have hkl : k < x.ks.length := by omega
        obtain ⟨rfl, hSx, hbx⟩ := px (by omega)
        obtain ⟨rfl, hTy, hby⟩ := py (by omega)
        have iha := ih x.ks[k] (List.getElem_mem hkl) y.ks[k]
        have zk := x.kid_size hkl
        have zk' := y.kid_size hky
        have HS : Hid (x.ks[k] = y.ks[k] → x.ks.take (k + 1) = y.ks.take (k + 1)) := fun e => by
          rw [List.take_succ_eq_append_getElem hkl, List.take_succ_eq_append_getElem hky, HT.out, e]
        have HN : Hid (¬ x.ks[k] = y.ks[k] → ¬ x = y) := fun hn e => hn (by subst e; rfl)
        have gx := rx k hkl
        have gy := ry k hky
        obtain ⟨u1, u2, u3, u4⟩ := (qx k hkl).of_block (bel.block bx hbx)
        obtain ⟨v1, v2, v3, v4⟩ := (qy k hky).of_block (bel.block b' hby)
        have four : ∀ W', Below wr.heap.size wr W' → (W'.cell? ⟨w.heap.size, 3, none⟩ = some (.slice (some ⟨bx, ox, none⟩) y.ks.length cx) ∧ W'.cell? ⟨w.heap.size + 1, 3, none⟩ = some (.slice (some ⟨b', oy, none⟩) y.ks.length cy) ∧
            W'.cell? ⟨bx, ox + k * 4, none⟩ = some (.int .i64 x.ks[k].k) ∧ W'.cell? ⟨bx, ox + k * 4 + 1, none⟩ = some (.string x.ks[k].t) ∧ W'.cell? ⟨bx, ox + k * 4 + 2, none⟩ = some (.int .i64 x.ks[k].n) ∧ W'.cell? ⟨bx, ox + k * 4 + 3, none⟩ = some (fx k) ∧
            W'.cell? ⟨b', oy + k * 4, none⟩ = some (.int .i64 y.ks[k].k) ∧ W'.cell? ⟨b', oy + k * 4 + 1, none⟩ = some (.string y.ks[k].t) ∧ W'.cell? ⟨b', oy + k * 4 + 2, none⟩ = some (.int .i64 y.ks[k].n) ∧ W'.cell? ⟨b', oy + k * 4 + 3, none⟩ = some (fy k)) := fun W' b => by
          have e1 := b.block w.heap.size (by omega)
          have e2 := b.block (w.heap.size + 1) (by omega)
          have e3 := b.block bx (by omega)
          have e4 := b.block b' (by omega)
          exact ⟨(World.cell?_of_block (a := ⟨_, _, none⟩) e1).trans c1, (World.cell?_of_block (a := ⟨_, _, none⟩) e2).trans c2, (World.cell?_of_block (a := ⟨_, _, none⟩) e3).trans u1, (World.cell?_of_block (a := ⟨_, _, none⟩) e3).trans u2, (World.cell?_of_block (a := ⟨_, _, none⟩) e3).trans u3, (World.cell?_of_block (a := ⟨_, _, none⟩) e3).trans u4,
            (World.cell?_of_block (a := ⟨_, _, none⟩) e4).trans v1, (World.cell?_of_block (a := ⟨_, _, none⟩) e4).trans v2, (World.cell?_of_block (a := ⟨_, _, none⟩) e4).trans v3, (World.cell?_of_block (a := ⟨_, _, none⟩) e4).trans v4⟩
        have hst := four wr.drew (Below.refl _ _).drew
        have gx' : LAt wr.drew S (fx k) x.ks[k].ks := gx.bel bel.drew
        have gy' : LAt wr.drew T (fy k) y.ks[k].ks := gy.bel bel.drew
        generalize x.ks[k] = xk at *
        generalize y.ks[k] = yk at *
        generalize fx k = fxk at *
        generalize fy k = fyk at *
        clear u1 u2 u3 u4 v1 v2 v3 v4
        go_wp2_with fail
        go_region_held3 (fun W' => W'.cell? ⟨w.heap.size, 3, none⟩ = some (.slice (some ⟨bx, ox, none⟩) y.ks.length cx) ∧ W'.cell? ⟨w.heap.size + 1, 3, none⟩ = some (.slice (some ⟨b', oy, none⟩) y.ks.length cy) ∧
            W'.cell? ⟨bx, ox + k * 4, none⟩ = some (.int .i64 xk.k) ∧ W'.cell? ⟨bx, ox + k * 4 + 1, none⟩ = some (.string xk.t) ∧ W'.cell? ⟨bx, ox + k * 4 + 2, none⟩ = some (.int .i64 xk.n) ∧ W'.cell? ⟨bx, ox + k * 4 + 3, none⟩ = some fxk ∧
            W'.cell? ⟨b', oy + k * 4, none⟩ = some (.int .i64 yk.k) ∧ W'.cell? ⟨b', oy + k * 4 + 1, none⟩ = some (.string yk.t) ∧ W'.cell? ⟨b', oy + k * 4 + 2, none⟩ = some (.int .i64 yk.n) ∧ W'.cell? ⟨b', oy + k * 4 + 3, none⟩ = some fyk)
          (first | assumption | exact hst | exact hst2)
          (first
            | (go_at_call 9; refine (iha _ S T fxk fyk gx' gy' (by omega) (by omega)).mono ?_; rintro e W1 ⟨b, rfl, hb, b1⟩; have hst2 := four W1 ((Below.refl _ _).drew.trans b1)))
        have bel1 : Below w.heap.size w W1 := bel.drew.trans (b1.mono bel.size)
        have sz1 : w.heap.size + 2 ≤ W1.heap.size := Nat.le_trans sz b1.size
        have d1 := hst2.1
        have d2 := hst2.2.1
        clear hst hst2 four c1 c2 gx gy gx' gy' iha
        cases b with
        | true =>
          have HT' : Hid (x.ks.take (k + 1) = y.ks.take (k + 1)) := HS.out (hb.1 rfl)
          clear HS HN hb
          go_wp2
          go_roundw
          case rel => exact ⟨k + 1, by simp, by omega, bel1, sz1, d1, d2, HT'⟩
          case measure => simp [intOf]; omega
        | false =>
          have HF : Hid (¬ x = y) := HN.out (fun e => by simpa using hb.2 e)
          clear HS HN hb
          go_wp2
          go_ret
          exact no _ bel1 HF.out
      · have HE : Hid (x = y) := by
          have e1 : x.ks.take k = x.ks := List.take_of_length_le (by omega)
          have e2 : y.ks.take k = y.ks := List.take_of_length_le (by omega)
          have e3 := HT.out
          rw [e1, e2] at e3
          exact Nd.ext' H1.out (bytes_eq.2 h2) H3.out e3
        clear HT
        go_wp2
        go_ret
        exact ⟨true, rfl, by simp [HE.out], bel⟩
end Go.Proofs.YtdpajlopdgapeaaGreatDoor
namespace Go.Proofs.YtdpajlopdgapeaaGreatDoor
open Go.RowKit
set_option linter.unusedVariables false

theorem bel_a (w : World) (o : Obj) : Below w.heap.size w (w.alloc o) := (Below.refl _ w).alloc (Nat.le_refl _) o
/-- a kid's cells and its own kids, in a later world. -/
theorem kid_at {w W : World} {S : Nat → Prop} {bl o k : Nat} {x : Nd} {v : Value} (h4 : Four w bl (o + k * 4) x v) (hk : LAt w S v x.ks) (hb : bl < w.heap.size) (bel : Below w.heap.size w W) :
    (W.cell? ⟨bl, o + k * 4, none⟩ = some (.int .i64 x.k) ∧ W.cell? ⟨bl, o + k * 4 + 1, none⟩ = some (.string x.t) ∧ W.cell? ⟨bl, o + k * 4 + 2, none⟩ = some (.int .i64 x.n) ∧ W.cell? ⟨bl, o + k * 4 + 3, none⟩ = some v) ∧ LAt W S v x.ks :=
  ⟨h4.of_block (bel.block bl hb), hk.bel bel⟩

end Go.Proofs.YtdpajlopdgapeaaGreatDoor
