/- Own text. A map in memory as a function: keys and elements of whatever kind. Package cursor: tokens in memory, the cursor's block, tokens looked at. -/
import Derived.Test.YtfehmdfamndcaaaGreatDoorProg
import Derived.WalkKit
import Derived.WalkSmall
import Derived.WalkLawsBesides
import Derived.Laws.Rows
import Derived.Maps.Own
import Derived.Laws.StructEq
import Derived.Test.YtfehmdfamndcaaaGreatDoorGm01
import Derived.Deep.AppendLies
import Derived.Recover
namespace Go.Proofs.YtfehmdfamndcaaaGreatDoor
open Go.RowKit Go.Maps Go.ChangeMaps
set_option linter.unusedVariables false
set_option linter.unusedSimpArgs false

/-- keys that are compared at once. -/
structure KeyOk {κ : Type} (P : Program) (t : TypeId) (ek : κ → Value) (G : κ → Prop) : Prop where
  inj : ∀ {a b : κ}, ek a = ek b → a = b
  check : ∀ (w : World) (em : Bool) {k : κ}, G k → (Instr.checkKey em 10000 t (ek k)).run P w = .ok () w
  find : ∀ (w : World) {x : κ}, G x → ∀ es : List MapEntry, (∀ e ∈ es, ∃ k, G k ∧ e.key = ek k) → ((Instr.findKey t (ek x) es).run P w = .ok none w ∧ ∀ e ∈ es, e.key ≠ ek x) ∨ ∃ j e, (Instr.findKey t (ek x) es).run P w = .ok (some (j, e.val)) w ∧ es[j]? = some e ∧ e.key = ek x
  stays : ∀ (w : World) {k : κ}, G k → (Instr.keyThatStays (ek k) (ek k)).run P w = .ok (ek k) w
theorem KeyOk.of {κ : Type} {P : Program} {t : TypeId} (K : Keyed P t) {ek : κ → Value} {G : κ → Prop} (hi : ∀ {a b : κ}, ek a = ek b → a = b) (h : ∀ k, G k → ∃ l, keyOf P t (ek k) = some l) : KeyOk P t ek G where
  inj := hi
  check w em k hk := by obtain ⟨l, hl⟩ := h k hk; exact K.check w em hl
  find w x hx es hes := by
    obtain ⟨l, hl⟩ := h x hx
    exact K.find w hl es fun e he => by obtain ⟨k, hk, e1⟩ := hes e he; rw [e1]; exact h k hk
  stays w k hk := by obtain ⟨l, hl⟩ := h k hk; exact K.stays w hl

/-- block b is a map of at most n entries, and under k stands f k. -/
def MF {κ υ : Type} (G : κ → Prop) (ek : κ → Value) (ev : υ → Value) (w : World) (b n : Nat) (f : κ → Option υ) : Prop :=
  ∃ es clock, w.heap[b]? = some (.map es clock) ∧ es.size ≤ n ∧ (∀ e ∈ es.toList, ∃ k v, G k ∧ e.key = ek k ∧ e.val = ev v ∧ f k = some v) ∧ (∀ k v, f k = some v → ∃ e ∈ es.toList, e.key = ek k ∧ e.val = ev v) ∧ es.toList.Pairwise (fun x y => x.key ≠ y.key)
section
variable {κ υ : Type} {G : κ → Prop} {ek : κ → Value} {ev : υ → Value} {w w' : World} {b n : Nat} {f : κ → Option υ} {P : Program} {t tk te : TypeId}
theorem MF.keep (h : MF G ek ev w b n f) (e : w'.heap[b]? = w.heap[b]?) : MF G ek ev w' b n f := by
  obtain ⟨es, clock, hb, r⟩ := h
  exact ⟨es, clock, e.trans hb, r⟩
theorem MF.lt (h : MF G ek ev w b n f) : b < w.heap.size := by
  obtain ⟨es, clock, hb, r⟩ := h
  exact (Array.getElem?_eq_some_iff.1 hb).1
theorem MF.nil (w : World) : MF G ek ev (w.alloc (.map #[] 0)) w.heap.size 0 (fun _ => none) :=
  ⟨#[], 0, heap_alloc_new w _, Nat.le_refl _, by simp, by simp, by simp⟩
theorem MF.mono (h : MF G ek ev w b n f) {m : Nat} (hm : n ≤ m) : MF G ek ev w b m f := by
  obtain ⟨es, clock, hb, hs, r⟩ := h
  exact ⟨es, clock, hb, Nat.le_trans hs hm, r⟩
theorem MF.look (h : MF G ek ev w b n f) (K : KeyOk P tk ek G) (ht : P.underlying t = some (.map tk te)) {z : Value} (hz : (zeroValue te).run P w = .ok z w) (k : κ) (hk : G k) (c : Bool) :
    (Instr.lookup t (.map (some b)) (ek k) c).run P w = .ok (if c then .tuple #[((f k).map ev).getD z, .bool (f k).isSome] else ((f k).map ev).getD z) w := by
  obtain ⟨es, clock, hb, hs, h1, h2, h3⟩ := h
  rcases K.find w hk es.toList (fun e he => by obtain ⟨k', v, a, b, _⟩ := h1 e he; exact ⟨k', a, b⟩) with ⟨r1, r2⟩ | ⟨j, e0, r1, r2, r3⟩
  · have hf : f k = none := by
      cases hfk : f k with
      | none => rfl
      | some v =>
        obtain ⟨e, he, ee, _⟩ := h2 k v hfk
        exact absurd ee (r2 e he)
    rw [hf]
    simp [Instr.lookup, run_underlying ht, MapKept.run_getObj_map hb, K.check w _ hk, r1, hz, Result.andThen]
  · have hm0 : e0 ∈ es.toList := List.mem_of_getElem? r2
    obtain ⟨k', v, _, e1, e2, e3⟩ := h1 e0 hm0
    have : k' = k := K.inj (e1.symm.trans r3)
    subst this
    rw [e3]
    simp [Instr.lookup, run_underlying ht, MapKept.run_getObj_map hb, K.check w _ hk, r1, Result.andThen, e2]
/-- an element more. -/
def upd [DecidableEq κ] (f : κ → Option υ) (k : κ) (v : υ) : κ → Option υ := fun x => if x = k then some v else f x
theorem pairwise_set {l : List MapEntry} (h : l.Pairwise (fun x y => x.key ≠ y.key)) {j : Nat} {e0 e1 : MapEntry} (h2 : l[j]? = some e0) (hk : e1.key = e0.key) : (l.set j e1).Pairwise (fun x y => x.key ≠ y.key) := by
  have hm : (l.set j e1).map (·.key) = l.map (·.key) := by
    apply List.ext_getElem?
    intro i
    rw [List.getElem?_map, List.getElem?_map, List.getElem?_set]
    split
    · subst_vars
      have hj := (List.getElem?_eq_some_iff.1 h2).1
      simp [h2, hk, hj]
      have := (List.getElem?_eq_some_iff.1 h2).2
      rw [this]
    · rfl
  have h' : (l.map (·.key)).Pairwise (· ≠ ·) := List.pairwise_map.2 h
  rw [← hm] at h'
  exact List.pairwise_map.1 h'
theorem MF.update [DecidableEq κ] (h : MF G ek ev w b n f) (K : KeyOk P tk ek G) (ht : P.underlying t = some (.map tk te)) (k : κ) (hk : G k) (v : υ) :
    ∃ w', (Instr.mapUpdate t (.map (some b)) (ek k) (ev v)).run P w = .ok () w' ∧ MF G ek ev w' b (n + 1) (upd f k v) ∧ w.grownBy w' (some b) := by
  obtain ⟨es, clock, hb, hs, h1, h2, h3⟩ := h
  have gr : ∀ o, w.grownBy (setBlock w b o) (some b) := fun o => ⟨rfl, rfl, rfl, by simp [setBlock], fun i _ hi => heap_setBlock_other hb _ (fun e => hi (by rw [e]))⟩
  rcases K.find w hk es.toList (fun e he => by obtain ⟨k', v, a, b, _⟩ := h1 e he; exact ⟨k', a, b⟩) with ⟨r1, r2⟩ | ⟨j, e0, r1, r2, r3⟩
  · refine ⟨setBlock w b (.map (es.push ⟨ek k, ev v, clock⟩) (clock + 1)), ?_, ⟨_, _, heap_setBlock_same hb _, by simp; omega, ?_, ?_, ?_⟩, gr _⟩
    · simp [Instr.mapUpdate, run_underlying ht, MapKept.run_getObj_map hb, K.check w false hk, r1, MapKept.run_setObj_map _ hb, Result.andThen, setBlock]
    · intro e he
      simp only [Array.toList_push, List.mem_append, List.mem_singleton] at he
      rcases he with he | rfl
      · obtain ⟨k', v', a, b, c, d⟩ := h1 e he
        refine ⟨k', v', a, b, c, ?_⟩
        unfold upd
        rw [if_neg (fun e' => r2 e he (by rw [b, e'])), d]
      · exact ⟨k, v, hk, rfl, rfl, by simp [upd]⟩
    · intro k' v' hf
      unfold upd at hf
      simp only [Array.toList_push, List.mem_append, List.mem_singleton]
      split at hf
      · rename_i e; subst e
        cases hf
        exact ⟨_, Or.inr rfl, rfl, rfl⟩
      · obtain ⟨e, he, r⟩ := h2 k' v' hf
        exact ⟨e, Or.inl he, r⟩
    · simp only [Array.toList_push]
      refine List.pairwise_append.2 ⟨h3, by simp, fun x hx y hy => ?_⟩
      simp only [List.mem_singleton] at hy
      subst hy
      exact r2 x hx
  · have hj : es[j]? = some e0 := by simpa using r2
    have hjl : j < es.toList.length := (List.getElem?_eq_some_iff.1 r2).1
    have hlist : (es.modify j (fun e' => { e' with key := ek k, val := ev v })).toList = es.toList.set j { e0 with key := ek k, val := ev v } := by rw [Array.toList_modify, modify_eq_set _ _ _ _ r2]
    refine ⟨setBlock w b (.map (es.modify j (fun e' => { e' with key := ek k, val := ev v })) clock), ?_, ⟨_, _, heap_setBlock_same hb _, by simp; omega, ?_, ?_, ?_⟩, gr _⟩
    · simp [Instr.mapUpdate, run_underlying ht, MapKept.run_getObj_map hb, K.check w false hk, r1, hj, r3, K.stays w hk, MapKept.run_setObj_map _ hb, Result.andThen, setBlock]
    · intro e he
      rw [hlist] at he
      obtain ⟨i, hi, ex⟩ := List.getElem_of_mem he
      rw [List.getElem_set] at ex
      split at ex
      · subst ex
        exact ⟨k, v, hk, rfl, rfl, by simp [upd]⟩
      · rename_i hne
        have hi' : i < es.toList.length := by simpa using hi
        have hm : e ∈ es.toList := ex ▸ List.getElem_mem hi'
        obtain ⟨k', v', a, b, c, d⟩ := h1 e hm
        refine ⟨k', v', a, b, c, ?_⟩
        unfold upd
        rw [if_neg (fun e' => ?_), d]
        have hp := List.pairwise_iff_getElem.1 h3
        have ej : es.toList[j] = e0 := (List.getElem?_eq_some_iff.1 r2).2
        have hk1 : e.key = e0.key := by rw [b, e', r3]
        rcases Nat.lt_or_gt_of_ne hne with hlt | hlt
        · exact hp j i hjl hi' hlt (by rw [ej, ex, hk1])
        · exact hp i j hi' hjl hlt (by rw [ej, ex, hk1])
    · intro k' v' hf
      rw [hlist]
      unfold upd at hf
      split at hf
      · rename_i e; subst e
        cases hf
        exact ⟨{ e0 with key := ek k', val := ev v }, List.mem_iff_getElem.2 ⟨j, by simpa using hjl, by simp⟩, rfl, rfl⟩
      · rename_i hne
        obtain ⟨e, he, r⟩ := h2 k' v' hf
        obtain ⟨i, hi, ex⟩ := List.getElem_of_mem he
        refine ⟨e, List.mem_iff_getElem.2 ⟨i, by simpa using hi, ?_⟩, r⟩
        rw [List.getElem_set]
        split
        · rename_i e; subst e
          have ej : es.toList[j] = e0 := (List.getElem?_eq_some_iff.1 r2).2
          exact absurd (K.inj (r.1.symm.trans ((by rw [← ex, ej] : e.key = e0.key).trans r3))) hne
        · exact ex
    · rw [hlist]
      exact pairwise_set h3 r2 (by simp [r3])
theorem wpList_mf [DecidableEq κ] (w : World) {ops : Array Oper} {rest : List Oper} {o : Oper} {a : Act} {Q : Exit → Act → World → Prop}
    (hg : o.guard = none) (m x v : Operand) (t : TypeId) (hop : o.op = Op.mapUpdate t m x v) {tk te : TypeId} (K : KeyOk P tk ek G) (ht : P.underlying t = some (.map tk te)) (b n : Nat) (f : κ → Option υ)
    (hm : a.eval m = .map (some b)) (hown : MF G ek ev w b n f) (k : κ) (hk : G k) (y : υ) (hx : a.eval x = ek k) (hv : a.eval v = ev y)
    (hK : ∀ w', MF G ek ev w' b (n + 1) (upd f k y) → w.grownBy w' (some b) → wpList P ops Q rest (a.put o.dst undef) w') :
    wpList P ops Q (o :: rest) a w := by
  refine wpList_plain hg fun K' hK' => ?_
  obtain ⟨w', hrun, r1, r2⟩ := hown.update K ht k hk y
  unfold Oper.wp
  simp [execOp, hop, hm, hx, hv, hrun, Result.andThen]
  exact hK' _ _ (hK w' r1 r2)
end
end Go.Proofs.YtfehmdfamndcaaaGreatDoor
namespace Go.Proofs.YtfehmdfamndcaaaGreatDoor
open Go.RowKit
set_option linter.unusedVariables false
set_option linter.unusedSimpArgs false

/-- a token: its kind, text, number and place. -/
structure Tok where
  k : Int
  t : ByteArray
  n : Int
  p : Int
def Tok.v (x : Tok) : Value := .agg #[.int .i64 x.k, .string x.t, .int .i64 x.n, .int .i64 x.p]
def endT : Tok := ⟨0, ByteArray.empty, 0, 0⟩
/-- the token at a place; behind the last one the end. -/
def tokA (L : List Tok) (i : Nat) : Tok := (L[i]?).getD endT
/-- tokens in memory. -/
structure Toks (w : World) (bl of : Nat) (L : List Tok) : Prop where
  lt : 0 < L.length → bl < w.heap.size
  c : ∀ i (h : i < L.length), w.cell? ⟨bl, of + i * 4, none⟩ = some (.int .i64 L[i].k) ∧ w.cell? ⟨bl, of + i * 4 + 1, none⟩ = some (.string L[i].t) ∧ w.cell? ⟨bl, of + i * 4 + 2, none⟩ = some (.int .i64 L[i].n) ∧ w.cell? ⟨bl, of + i * 4 + 3, none⟩ = some (.int .i64 L[i].p)
/-- what a reader has behind its cursor: its other cells, its type. -/
structure Ex where
  vs : List Value
  ty : TypeId
/-- where a reader and its tokens lie. -/
structure Pl where
  R : Nat
  bl : Nat
  of : Nat
  tc : Nat
  ta : Option Addr
/-- the reader's block: the tokens, the place, what else it has. -/
structure Rd (w : World) (P : Pl) (L : List Tok) (a : Nat) (o : Ex) : Prop where
  r : w.heap[P.R]? = some (.cells ⟨.slice P.ta L.length P.tc :: .int .i64 (a : Int) :: o.vs⟩ o.ty (0, 0))
  t : 0 < L.length → P.ta = some ⟨P.bl, P.of, none⟩
  x : Toks w P.bl P.of L
  ne : 0 < L.length → P.bl ≠ P.R
  le : a ≤ L.length
  small : L.length ≤ 4194304
  cap : L.length ≤ P.tc
theorem Rd.cells {w : World} {P : Pl} {L : List Tok} {a : Nat} {o : Ex} (h : Rd w P L a o) : (w.cell? ⟨P.R, 0, none⟩ = some (.slice P.ta L.length P.tc) ∧ w.cell? ⟨P.R, 1, none⟩ = some (.int .i64 (a : Int))) ∧ w.frozen? ⟨P.R, 1, none⟩ = false := by
  simp [World.cell?, World.frozen?, h.r]
theorem Rd.lt {w : World} {P : Pl} {L : List Tok} {a : Nat} {o : Ex} (h : Rd w P L a o) : P.R < w.heap.size := (Array.getElem?_eq_some_iff.1 h.r).1
theorem Toks.bel {w w' : World} {bl of : Nat} {L : List Tok} (h : Toks w bl of L) (b : Below w.heap.size w w') : Toks w' bl of L :=
  ⟨fun h0 => Nat.lt_of_lt_of_le (h.lt h0) b.size, fun i hi => by
    have hl := h.lt (by omega)
    obtain ⟨c0, c1, c2, c3⟩ := h.c i hi
    exact ⟨(b.cell (p := ⟨bl, of + i * 4, none⟩) hl).trans c0, (b.cell (p := ⟨bl, of + i * 4 + 1, none⟩) hl).trans c1, (b.cell (p := ⟨bl, of + i * 4 + 2, none⟩) hl).trans c2, (b.cell (p := ⟨bl, of + i * 4 + 3, none⟩) hl).trans c3⟩⟩
theorem Rd.bel {w w' : World} {P : Pl} {L : List Tok} {a : Nat} {o : Ex} (h : Rd w P L a o) (b : Below w.heap.size w w') : Rd w' P L a o :=
  ⟨(b.block P.R h.lt).trans h.r, h.t, h.x.bel b, h.ne, h.le, h.small, h.cap⟩
theorem t4 {w : World} {b : Nat} {p q r s : Value} {t : TypeId} (h : w.heap[b]? = some (.cells #[p, q, r, s] t (0, 0))) :
    (w.cell? ⟨b, 0, none⟩ = some p ∧ w.cell? ⟨b, 1, none⟩ = some q ∧ w.cell? ⟨b, 2, none⟩ = some r ∧ w.cell? ⟨b, 3, none⟩ = some s) ∧ (w.frozen? ⟨b, 0, none⟩ = false ∧ w.frozen? ⟨b, 1, none⟩ = false ∧ w.frozen? ⟨b, 2, none⟩ = false ∧ w.frozen? ⟨b, 3, none⟩ = false) := by
  simp [World.cell?, World.frozen?, h]
theorem t4_set {w : World} {b : Nat} {p q r s : Value} {t : TypeId} {fr : Nat × Nat} (p' q' r' s' : Value) (h : w.heap[b]? = some (.cells #[p, q, r, s] t fr)) :
    ((((w.setCell ⟨b, 0, none⟩ p').setCell ⟨b, 1, none⟩ q').setCell ⟨b, 2, none⟩ r').setCell ⟨b, 3, none⟩ s').heap[b]? = some (.cells #[p', q', r', s'] t fr) := by
  simp [World.setCell, Array.getElem?_modify, h]
theorem res_tk {fn : Func} {p : Nat} (h : fn.results = #[.cell p 118]) {W : World} {n : Nat} {a b c d : Value} {t : TypeId} {tmps : Array Value} (hb : W.heap[n]? = some (.cells #[a, b, c, d] t (0, 0))) (ht : tmps[p]?.getD undef = .pointer (some ⟨n, 0, none⟩)) :
    (results fn tmps).run Tryz.prog W = .ok (.agg #[a, b, c, d]) W := by
  obtain ⟨⟨c0, c1, c2, c3⟩, _⟩ := t4 hb
  simp [results, h, go_sem, ht, c0, c1, c2, c3]
set_option maxRecDepth 100000 in
set_option maxHeartbeats 4000000 in
theorem isSign_any (x : Tok) (s : ByteArray) (w : World) :
    Calls Tryz.prog 77 #[x.v, .string s] w fun e w' => e = .returned (.bool ((x.k == 5) && (x.t.toList == s.toList))) ∧ Below w.heap.size w w' := by
  obtain ⟨k, t, n, p⟩ := x
  unfold Tok.v
  go_enter Tryz.func77, Tryz.ntmps77
  by_cases h : k = 5
  · subst h
    go_wp2
    go_ret
    exact ⟨by simp, (Below.refl _ _).alloc (Nat.le_refl _) _⟩
  · go_wp2
    go_ret
    exact ⟨by simp [h], (Below.refl _ _).alloc (Nat.le_refl _) _⟩
set_option maxRecDepth 100000 in
set_option maxHeartbeats 4000000 in
theorem isWord_any (x : Tok) (s : ByteArray) (w : World) :
    Calls Tryz.prog 57 #[x.v, .string s] w fun e w' => e = .returned (.bool ((x.k == 2) && (x.t.toList == s.toList))) ∧ Below w.heap.size w w' := by
  obtain ⟨k, t, n, p⟩ := x
  unfold Tok.v
  go_enter Tryz.func57, Tryz.ntmps57
  by_cases h : k = 2
  · subst h
    go_wp2
    go_ret
    exact ⟨by simp, (Below.refl _ _).alloc (Nat.le_refl _) _⟩
  · go_wp2
    go_ret
    exact ⟨by simp [h], (Below.refl _ _).alloc (Nat.le_refl _) _⟩
set_option maxRecDepth 100000 in
set_option maxHeartbeats 4000000 in
theorem isName_any (x : Tok) (s : ByteArray) (w : World) :
    Calls Tryz.prog 76 #[x.v, .string s] w fun e w' => e = .returned (.bool ((x.k == 1) && (x.t.toList == s.toList))) ∧ Below w.heap.size w w' := by
  obtain ⟨k, t, n, p⟩ := x
  unfold Tok.v
  go_enter Tryz.func76, Tryz.ntmps76
  by_cases h : k = 1
  · subst h
    go_wp2
    go_ret
    exact ⟨by simp, (Below.refl _ _).alloc (Nat.le_refl _) _⟩
  · go_wp2
    go_ret
    exact ⟨by simp [h], (Below.refl _ _).alloc (Nat.le_refl _) _⟩
set_option maxRecDepth 100000 in
set_option maxHeartbeats 4000000 in
theorem place_any {w : World} {P : Pl} {L : List Tok} {a : Nat} {o : Ex} (h : Rd w P L a o) :
    Calls Tryz.prog 56 #[.pointer (some ⟨P.R, 0, none⟩)] w fun e w' => e = .returned (.int .i64 (a : Int)) ∧ w' = w := by
  obtain ⟨⟨c0, c1⟩, f1⟩ := h.cells
  go_enter Tryz.func56, Tryz.ntmps56
  go_wp2
  go_ret
  exact ⟨rfl, rfl⟩
/-- the tokens from here on, as a slice. -/
def restV (P : Pl) (L : List Tok) (a : Nat) (v : Value) : Prop := ∃ ad, v = .slice ad (L.length - a) (P.tc - a) ∧ (a < L.length → ad = some ⟨P.bl, P.of + a * 4, none⟩)
set_option maxRecDepth 100000 in
set_option maxHeartbeats 4000000 in
theorem rest_any {w : World} {P : Pl} {L : List Tok} {a : Nat} {o : Ex} (h : Rd w P L a o) :
    Calls Tryz.prog 110 #[.pointer (some ⟨P.R, 0, none⟩)] w fun e w' => (∃ v, e = .returned v ∧ restV P L a v) ∧ Below w.heap.size w w' := by
  obtain ⟨⟨c0, c1⟩, f1⟩ := h.cells
  have hle := h.le
  have hcp := h.cap
  have hsm := h.small
  have ht := h.t
  obtain ⟨R, bl, of, tc, ta⟩ := P
  simp only at *
  have i1 : (a : Int) ≤ (L.length : Int) := by omega
  have i2 : (L.length : Int) ≤ (tc : Int) := by omega
  have i3 : (0 : Int) ≤ (a : Int) := by omega
  have i4 : (a : Int) ≤ (tc : Int) := by omega
  have h0 : ∀ v W, (∃ ad, v = .slice ad (L.length - a) (tc - a) ∧ (a < L.length → ad = some ⟨bl, of + a * 4, none⟩)) → Below w.heap.size w W → (∃ u, Ending.returned v = .returned u ∧ restV ⟨R, bl, of, tc, ta⟩ L a u) ∧ Below w.heap.size w W := fun v W h1 h2 => ⟨⟨v, rfl, h1⟩, h2⟩
  rcases ta with _ | ⟨b0, o0, z0⟩
  · obtain hl : L.length = 0 := by
      by_cases q : 0 < L.length
      · exact absurd (ht q) (by simp)
      · omega
    obtain rfl : a = 0 := by omega
    go_enter Tryz.func110, Tryz.ntmps110
    go_wp2
    go_region
    go_wp2
    go_ret
    exact h0 _ _ ⟨none, by simp [hl], fun q => by omega⟩ (Below.refl _ _).drew
  · by_cases hc : a < tc
    · have i5 : (a : Int) < (tc : Int) := by omega
      go_enter Tryz.func110, Tryz.ntmps110
      go_wp2
      go_region
      go_wp2
      go_ret
      exact h0 _ _ ⟨_, rfl, fun q => by have := ht (by omega); cases this; simp [Addr.add]⟩ (Below.refl _ _).drew
    · obtain rfl : a = tc := by omega
      go_enter Tryz.func110, Tryz.ntmps110
      go_wp2
      go_region
      go_wp2
      go_ret
      exact h0 _ _ ⟨some ⟨b0, o0, z0⟩, by simp; omega, fun q => by omega⟩ (Below.refl _ _).drew
set_option maxRecDepth 100000 in
set_option maxHeartbeats 4000000 in
theorem ahead_any {w : World} {P : Pl} {L : List Tok} {a : Nat} {o : Ex} (h : Rd w P L a o) (n : Nat) (hn : n ≤ 4194304) :
    Calls Tryz.prog 78 #[.pointer (some ⟨P.R, 0, none⟩), .int .i64 (n : Int)] w fun e w' => e = .returned (tokA L (a + n)).v ∧ Below w.heap.size w w' := by
  have hle := h.le
  have hsm := h.small
  have bel_n : ∀ o, Below w.heap.size w (w.alloc o) := fun o => (Below.refl _ _).alloc (Nat.le_refl _) o
  have C1 := fun o => rest_any (h.bel (bel_n o))
  have M0 : Hid (∀ W, Below (w.alloc (Obj.cells #[Value.int IntKind.i64 0, Value.string ⟨#[]⟩, Value.int IntKind.i64 0, Value.int IntKind.i64 0] 118)).heap.size (w.alloc (Obj.cells #[Value.int IntKind.i64 0, Value.string ⟨#[]⟩, Value.int IntKind.i64 0, Value.int IntKind.i64 0] 118)) W → W.heap[w.heap.size]? = some (.cells #[Value.int IntKind.i64 0, Value.string ⟨#[]⟩, Value.int IntKind.i64 0, Value.int IntKind.i64 0] 118 (0, 0))) := fun W b => (b.block _ (by simp)).trans (heap_alloc_new w _)
  have B0 : Hid (∀ W, Below (w.alloc (Obj.cells #[Value.int IntKind.i64 0, Value.string ⟨#[]⟩, Value.int IntKind.i64 0, Value.int IntKind.i64 0] 118)).heap.size (w.alloc (Obj.cells #[Value.int IntKind.i64 0, Value.string ⟨#[]⟩, Value.int IntKind.i64 0, Value.int IntKind.i64 0] 118)) W → Below w.heap.size w W) := fun W b => (bel_n _).trans (b.mono (by simp))
  have hR := h
  by_cases ha : a + n < L.length
  · have e : tokA L (a + n) = L[a + n] := by unfold tokA; rw [List.getElem?_eq_getElem ha]; rfl
    rw [e]
    clear e
    have HC : Hid (∀ W, Below w.heap.size w W → W.cell? ⟨P.bl, P.of + (a + n) * 4, none⟩ = some (.int .i64 L[a + n].k) ∧ W.cell? ⟨P.bl, P.of + (a + n) * 4 + 1, none⟩ = some (.string L[a + n].t) ∧ W.cell? ⟨P.bl, P.of + (a + n) * 4 + 2, none⟩ = some (.int .i64 L[a + n].n) ∧ W.cell? ⟨P.bl, P.of + (a + n) * 4 + 3, none⟩ = some (.int .i64 L[a + n].p)) := fun W b => (h.x.bel b).c (a + n) ha
    generalize L[a + n] = x at *
    have ea : P.of + (a + n) * 4 = P.of + a * 4 + n * 4 := by omega
    rw [ea] at HC
    have i1 : (n : Int) < ((L.length - a : Nat) : Int) := by omega
    unfold Tok.v
    go_enter Tryz.func78, Tryz.ntmps78
    go_wp2_with (go_at_call 110; refine (C1 _).mono ?_; rintro e W1 ⟨⟨v, rfl, ad, rfl, had⟩, b1⟩; obtain rfl := had (by omega); obtain ⟨d0, d1, d2, d3⟩ := HC.out _ (B0.out _ b1); have m0 := M0.out _ b1; obtain ⟨⟨e0, e1, e2, e3⟩, g0, g1, g2, g3⟩ := t4 m0)
    have b0 := B0.out _ b1
    refine bodyPost_ret (res_tk Tryz.results78 (t4_set _ _ _ _ m0) rfl) rfl ⟨rfl, ?_⟩
    exact (((b0.setCell (Nat.le_refl _) _).setCell (Nat.le_refl _) _).setCell (Nat.le_refl _) _).setCell (Nat.le_refl _) _
  · have e : tokA L (a + n) = endT := by unfold tokA; rw [List.getElem?_eq_none (by omega)]; rfl
    rw [e]
    clear e
    have i1 : ¬ (n : Int) < ((L.length - a : Nat) : Int) := by omega
    unfold Tok.v
    go_enter Tryz.func78, Tryz.ntmps78
    go_wp2_with (go_at_call 110; refine (C1 _).mono ?_; rintro e W1 ⟨⟨v, rfl, ad, rfl, had⟩, b1⟩; have m0 := M0.out _ b1; obtain ⟨⟨e0, e1, e2, e3⟩, g0, g1, g2, g3⟩ := t4 m0)
    have b0 := B0.out _ b1
    refine bodyPost_ret (res_tk Tryz.results78 (t4_set _ _ _ _ m0) rfl) rfl ⟨rfl, ?_⟩
    exact (((b0.setCell (Nat.le_refl _) _).setCell (Nat.le_refl _) _).setCell (Nat.le_refl _) _).setCell (Nat.le_refl _) _
set_option maxRecDepth 100000 in
set_option maxHeartbeats 4000000 in
theorem token_any {w : World} {P : Pl} {L : List Tok} {a : Nat} {o : Ex} (h : Rd w P L a o) :
    Calls Tryz.prog 58 #[.pointer (some ⟨P.R, 0, none⟩)] w fun e w' => e = .returned (tokA L a).v ∧ Below w.heap.size w w' := by
  have bel_n : ∀ o, Below w.heap.size w (w.alloc o) := fun o => (Below.refl _ _).alloc (Nat.le_refl _) o
  have C1 := fun o => ahead_any (h.bel (bel_n o)) 0 (by omega)
  have M0 : Hid (∀ W, Below (w.alloc (Obj.cells #[Value.int IntKind.i64 0, Value.string ⟨#[]⟩, Value.int IntKind.i64 0, Value.int IntKind.i64 0] 118)).heap.size (w.alloc (Obj.cells #[Value.int IntKind.i64 0, Value.string ⟨#[]⟩, Value.int IntKind.i64 0, Value.int IntKind.i64 0] 118)) W → W.heap[w.heap.size]? = some (.cells #[Value.int IntKind.i64 0, Value.string ⟨#[]⟩, Value.int IntKind.i64 0, Value.int IntKind.i64 0] 118 (0, 0))) := fun W b => (b.block _ (by simp)).trans (heap_alloc_new w _)
  have B0 : Hid (∀ W, Below (w.alloc (Obj.cells #[Value.int IntKind.i64 0, Value.string ⟨#[]⟩, Value.int IntKind.i64 0, Value.int IntKind.i64 0] 118)).heap.size (w.alloc (Obj.cells #[Value.int IntKind.i64 0, Value.string ⟨#[]⟩, Value.int IntKind.i64 0, Value.int IntKind.i64 0] 118)) W → Below w.heap.size w W) := fun W b => (bel_n _).trans (b.mono (by simp))
  simp only [Nat.add_zero, Int.natCast_zero] at C1
  generalize tokA L a = x at *
  unfold Tok.v at *
  go_enter Tryz.func58, Tryz.ntmps58
  go_wp2_with (go_at_call 78; refine (C1 _).mono ?_; rintro e W1 ⟨rfl, b1⟩; have m0 := M0.out _ b1; obtain ⟨⟨e0, e1, e2, e3⟩, g0, g1, g2, g3⟩ := t4 m0)
  have b0 := B0.out _ b1
  refine bodyPost_ret (res_tk Tryz.results58 (t4_set _ _ _ _ m0) rfl) rfl ⟨rfl, ?_⟩
  exact (((b0.setCell (Nat.le_refl _) _).setCell (Nat.le_refl _) _).setCell (Nat.le_refl _) _).setCell (Nat.le_refl _) _
end Go.Proofs.YtfehmdfamndcaaaGreatDoor
