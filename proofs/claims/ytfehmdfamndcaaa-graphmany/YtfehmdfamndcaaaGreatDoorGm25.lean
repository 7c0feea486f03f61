/- Own text. Package graph: what a loader holds; what it does, as relations (the number that a new module is told with may be how many there were ahead, or are behind: the language's model leaves that open). Package graph: follow. Package graph: ask. -/
import Derived.Test.YtfehmdfamndcaaaGreatDoorGm07
import Derived.Test.YtfehmdfamndcaaaGreatDoorGm18
import Derived.Test.YtfehmdfamndcaaaGreatDoorGm24
namespace Go.Proofs.YtfehmdfamndcaaaGreatDoor
open Go.RowKit Go.MapKept
set_option linter.unusedVariables false
set_option linter.unusedSimpArgs false

/-- a module: its path, its tree's cells, its requests. -/
structure Md where
  p : ByteArray
  k : Int
  t : ByteArray
  n : Int
  kv : Value
  rv : Value
  rs : List Rq
def Md.cs (m : Md) : List Value := [.string m.p, .int .i64 m.k, .string m.t, .int .i64 m.n, m.kv, m.rv]
def mdL (M : List Md) : List Value := M.flatMap Md.cs
theorem mdL_snoc (M : List Md) (m : Md) : mdL (M ++ [m]) = mdL M ++ m.cs := by simp [mdL]
/-- what a loader knows. -/
structure Sx where
  ms : List Md
  vm : Value
  num : ByteArray → Option Int
  tgt : Qn → Option Int
/-- a fault: who asked for what, the error. -/
abbrev Ft := Qn × Int
def fv (f : Option Ft) : Value := match f with
  | none => .agg #[.string ⟨#[]⟩, .string ⟨#[]⟩, .int .i64 0]
  | some x => .agg #[.string x.1.1, .string x.1.2, .int .i64 x.2]
/-- the target of a request is set. -/
def setT (S : Sx) (a i : Nat) (n : Int) : Sx := { S with ms := S.ms.modify a fun m => { m with rs := m.rs.modify i fun r => { r with tg := n } } }
section
variable (L : Fls) (MR : ByteArray → Nd)
mutual
inductive Fol : Qn → ByteArray → Int → Sx → Int → Sx → Option Ft → Prop
  | err {r : Qn} {p : ByteArray} {e : Int} {S : Sx} (he : e ≠ 0) : Fol r p e S 0 S (some (r, e))
  | miss {r : Qn} {p : ByteArray} {S : Sx} (hp : prbF (fun q => hasP q L) p = none) : Fol r p 0 S 0 S (some (r, 100))
  | old {r : Qn} {p file : ByteArray} {S : Sx} {n : Int} (hp : prbF (fun q => hasP q L) p = some file) (hn : S.num file = some n) : Fol r p 0 S n S none
  | many {r : Qn} {p file : ByteArray} {S : Sx} (hp : prbF (fun q => hasP q L) p = some file) (hn : S.num file = none) (hl : S.ms.length = 64) : Fol r p 0 S 0 S (some (r, 101))
  | new {r : Qn} {p file : ByteArray} {S S' : Sx} {n : Int} {f : Option Ft} (hp : prbF (fun q => hasP q L) p = some file) (hn : S.num file = none) (hl : S.ms.length ≠ 64) (hv : Vis file S S' f) : Fol r p 0 S n S' f
inductive Vis : ByteArray → Sx → Sx → Option Ft → Prop
  | mk {file : ByteArray} {S S' : Sx} {f : Option Ft} (m : Md) (v : Value) (hp : m.p = file) (hr : m.rs = reqsL (MR (getP file L))) (h : Lop file S.ms.length 0 ⟨S.ms ++ [m], v, upd S.num file (S.ms.length : Nat), S.tgt⟩ S' f) : Vis file S S' f
inductive Lop : ByteArray → Nat → Nat → Sx → Sx → Option Ft → Prop
  | done {file : ByteArray} {a i : Nat} {S : Sx} {m : Md} (hm : S.ms[a]? = some m) (hi : m.rs.length ≤ i) : Lop file a i S S none
  | bad {file : ByteArray} {a i : Nat} {S S' : Sx} {m : Md} {q : Rq} {n : Int} {f : Ft} (hm : S.ms[a]? = some m) (hq : m.rs[i]? = some q) (h : Ask (file, q.t) S n S' (some f)) : Lop file a i S S' (some f)
  | go {file : ByteArray} {a i : Nat} {S S' S'' : Sx} {m : Md} {q : Rq} {n : Int} {f : Option Ft} (hm : S.ms[a]? = some m) (hq : m.rs[i]? = some q) (h : Ask (file, q.t) S n S' none) (h' : Lop file a (i + 1) (setT S' a i n) S'' f) : Lop file a i S S'' f
inductive Ask : Qn → Sx → Int → Sx → Option Ft → Prop
  | old {r : Qn} {S : Sx} {n : Int} (h : S.tgt r = some n) : Ask r S n S none
  | bad {r : Qn} {S S' : Sx} {n : Int} {f : Ft} (h : S.tgt r = none) (hf : Fol r (Pa.jnB r.1 r.2) (Pa.jnE r.1 r.2) S n S' (some f)) : Ask r S n S' (some f)
  | go {r : Qn} {S S' : Sx} {n : Int} (h : S.tgt r = none) (hf : Fol r (Pa.jnB r.1 r.2) (Pa.jnE r.1 r.2) S n S' none) : Ask r S n { S' with tgt := upd S'.tgt r n } none
end
end
/-- where a loader lies: its own block, its two maps, the table's blocks, what lay there ahead. -/
structure Lw where
  B : Nat
  lb : Nat
  nb : Nat
  gb : Nat
  tb : Nat
  mb : Nat
abbrev kS : ByteArray → Value := fun k => .string k
abbrev vI : Int → Value := fun v => .int .i64 v
/-- the loader in memory. -/
structure Ld (L : Fls) (W : World) (c : Lw) (S : Sx) : Prop where
  l : W.heap[c.lb]? = some (.cells #[.pointer (some ⟨c.tb, 0, none⟩), S.vm, .map (some c.nb), .map (some c.gb)] 48 (0, 0))
  row : W.ownsRow c.B 65 6 S.vm S.ms.length (mdL S.ms)
  nu : ∃ n, MF (fun _ => True) kS vI W c.nb n S.num
  tg : ∃ n, MF (fun _ => True) qv vI W c.gb n S.tgt
  rq : ∀ (i : Nat) (m : Md), S.ms[i]? = some m → RqO W c.B m.rv m.rs
  a1 : S.vm.ownBlock ≠ some c.lb
  a2 : ∀ (i : Nat) (m : Md), S.ms[i]? = some m → m.rv.ownBlock ≠ some c.lb ∧ ∀ g, m.rv.ownBlock = some g → S.vm.ownBlock ≠ some g
  a3 : ∀ (i j : Nat) (m m' : Md), S.ms[i]? = some m → S.ms[j]? = some m' → i ≠ j → ∀ g, m.rv.ownBlock = some g → m'.rv.ownBlock ≠ some g
  a4 : c.nb ≠ c.gb
  bl : c.B ≤ c.lb
  bn : c.B ≤ c.nb
  bg : c.B ≤ c.gb
  tab : Vf.Tab W c.tb c.mb L
  t1 : c.tb < c.B
  t2 : c.mb < c.B
  env : Env W
  ov : Over c.B
  le : S.ms.length ≤ 64
/-- what a call of the loader's may change. -/
structure Fr (W : World) (c : Lw) (S : Sx) (W' : World) (S' : Sx) : Prop where
  os : W'.os = W.os
  tape : W'.tape = W.tape
  output : W'.output = W.output
  size : W.heap.size ≤ W'.heap.size
  block : ∀ k, k < W.heap.size → k ≠ c.lb → k ≠ c.nb → k ≠ c.gb → S.vm.ownBlock ≠ some k → W'.heap[k]? = W.heap[k]?
  own : ∀ g, S'.vm.ownBlock = some g → S.vm.ownBlock = some g ∨ W.heap.size ≤ g
  ext : ∀ i, i < S.ms.length → S'.ms[i]? = S.ms[i]?
  len : S.ms.length ≤ S'.ms.length
  new : ∀ (i : Nat) (m : Md), S.ms.length ≤ i → S'.ms[i]? = some m → ∀ g, m.rv.ownBlock = some g → W.heap.size ≤ g
theorem Fr.refl (W : World) (c : Lw) (S : Sx) : Fr W c S W S := ⟨rfl, rfl, rfl, Nat.le_refl _, fun _ _ _ _ _ _ => rfl, fun g h => .inl h, fun _ _ => rfl, Nat.le_refl _, fun i m hi hm => by rw [List.getElem?_eq_none hi] at hm; cases hm⟩
theorem Fr.trans {W W' W'' : World} {c : Lw} {S S' S'' : Sx} (h : Fr W c S W' S') (k : Fr W' c S' W'' S'') : Fr W c S W'' S'' :=
  ⟨k.os.trans h.os, k.tape.trans h.tape, k.output.trans h.output, Nat.le_trans h.size k.size, fun j h1 h2 h3 h4 h5 => (k.block j (Nat.lt_of_lt_of_le h1 h.size) h2 h3 h4 (fun e => by
      rcases h.own j e with e' | e'
      · exact h5 e'
      · omega)).trans (h.block j h1 h2 h3 h4 h5), fun g e => by
      rcases k.own g e with e' | e'
      · exact h.own g e'
      · exact .inr (Nat.le_trans h.size e'), fun i hi => (k.ext i (Nat.lt_of_lt_of_le hi h.len)).trans (h.ext i hi), Nat.le_trans h.len k.len, fun i m hi hm g hg => by
      by_cases q : i < S'.ms.length
      · exact h.new i m hi (by rw [← k.ext i q]; exact hm) g hg
      · exact Nat.le_trans h.size (k.new i m (by omega) hm g hg)⟩
theorem Fr.of {W W' : World} {c : Lw} {S : Sx} (b : Below W.heap.size W W') : Fr W c S W' S := ⟨b.os, b.tape, b.output, b.size, fun k h _ _ _ _ => b.block k h, fun g h => .inl h, fun _ _ => rfl, Nat.le_refl _, fun i m hi hm => by rw [List.getElem?_eq_none hi] at hm; cases hm⟩
theorem Ld.ltl {L : Fls} {W : World} {c : Lw} {S : Sx} (h : Ld L W c S) : c.lb < W.heap.size := (Array.getElem?_eq_some_iff.1 h.l).1
/-- memory that only grew. -/
theorem Ld.bel {L : Fls} {W W' : World} {c : Lw} {S : Sx} (h : Ld L W c S) (b : Below W.heap.size W W') : Ld L W' c S := by
  obtain ⟨n1, m1⟩ := h.nu
  obtain ⟨n2, m2⟩ := h.tg
  exact ⟨(b.block _ h.ltl).trans h.l, row_bel h.row b, ⟨n1, m1.keep (b.block _ m1.lt)⟩, ⟨n2, m2.keep (b.block _ m2.lt)⟩, fun i m hm => row_bel (h.rq i m hm) b, h.a1, h.a2, h.a3, h.a4, h.bl, h.bn, h.bg, h.tab.below b h.tab.ltT h.tab.ltM, h.t1, h.t2, env_below h.env b, h.ov, h.le⟩
theorem Fr.below {L : Fls} {W W' : World} {c : Lw} {S S' : Sx} (h : Fr W c S W' S') (d : Ld L W c S) : Below c.B W W' :=
  ⟨h.os, h.tape, h.output, h.size, fun k hk => by
    have hl := d.bl
    have hn := d.bn
    have hg := d.bg
    have := d.ltl
    refine h.block k (by omega) (by omega) (by omega) (by omega) (fun e => ?_)
    have := (row_lt d.row k e).1
    omega⟩
/-- a block that is none of the loader's. -/
structure Fg (c : Lw) (S : Sx) (k : Nat) : Prop where
  l : k ≠ c.lb
  n : k ≠ c.nb
  g : k ≠ c.gb
  v : S.vm.ownBlock ≠ some k
  r : ∀ (i : Nat) (m : Md), S.ms[i]? = some m → m.rv.ownBlock ≠ some k
theorem Ld.fg {L : Fls} {W : World} {c : Lw} {S : Sx} (h : Ld L W c S) {k : Nat} (hk : W.heap.size ≤ k) : Fg c S k := by
  obtain ⟨n1, m1⟩ := h.nu
  obtain ⟨n2, m2⟩ := h.tg
  have h1 := h.ltl
  have h2 := m1.lt
  have h3 := m2.lt
  exact ⟨by omega, by omega, by omega, fun e => by have := (row_lt h.row k e).2; omega, fun i m hm e => by have := (row_lt (h.rq i m hm) k e).2; omega⟩
theorem Fr.fg {W W' : World} {c : Lw} {S S' : Sx} (h : Fr W c S W' S') {k : Nat} (hk : k < W.heap.size) (f : Fg c S k) : Fg c S' k :=
  ⟨f.l, f.n, f.g, fun e => by
    rcases h.own k e with q | q
    · exact f.v q
    · omega, fun i m hm e => by
    by_cases q : i < S.ms.length
    · exact f.r i m (by rw [← h.ext i q]; exact hm) e
    · have := h.new i m (by omega) hm k e
      omega⟩
theorem row_off {w w' : World} {base : Nat} {e : TypeId} {size : Nat} {v : Value} {n : Nat} {xs : List Value} (h : w.ownsRow base e size v n xs) (hb : ∀ g, v.ownBlock = some g → w'.heap[g]? = w.heap[g]?) : w'.ownsRow base e size v n xs := by
  refine ⟨h.1, h.2.imp id ?_⟩
  rintro ⟨g, cap, cur, rfl, h1, h2, h3⟩
  exact ⟨g, cap, cur, rfl, h1, (hb g rfl).trans h2, h3⟩
/-- a block that is none of the loader's is written. -/
theorem Ld.put {L : Fls} {W W' : World} {c : Lw} {S : Sx} (h : Ld L W c S) {k : Nat} (f : Fg c S k) (hB : c.B ≤ k) (hb : ∀ j, j ≠ k → j < W.heap.size → W'.heap[j]? = W.heap[j]?) (bw : Below c.B W W') : Ld L W' c S := by
  obtain ⟨n1, m1⟩ := h.nu
  obtain ⟨n2, m2⟩ := h.tg
  exact ⟨(hb _ f.l.symm h.ltl).trans h.l, row_off h.row (fun g hg => hb g (fun e => f.v (by rw [hg, e])) (row_lt h.row g hg).2), ⟨n1, m1.keep (hb _ f.n.symm m1.lt)⟩, ⟨n2, m2.keep (hb _ f.g.symm m2.lt)⟩, fun i m hm => row_off (h.rq i m hm) (fun g hg => hb g (fun e => f.r i m hm (by rw [hg, e])) (row_lt (h.rq i m hm) g hg).2), h.a1, h.a2, h.a3, h.a4, h.bl, h.bn, h.bg, h.tab.below bw h.t1 h.t2, h.t1, h.t2, h.env.keep bw h.ov, h.ov, h.le⟩
theorem Fr.put {W W1 W2 : World} {c : Lw} {S S' : Sx} (h : Fr W c S W1 S') {k : Nat} (hk : W.heap.size ≤ k) (hb : ∀ j, j ≠ k → j < W1.heap.size → W2.heap[j]? = W1.heap[j]?) (bw : Below W.heap.size W1 W2) : Fr W c S W2 S' :=
  ⟨bw.os.trans h.os, bw.tape.trans h.tape, bw.output.trans h.output, Nat.le_trans h.size bw.size, fun j h1 h2 h3 h4 h5 => (bw.block j h1).trans (h.block j h1 h2 h3 h4 h5), h.own, h.ext, h.len, h.new⟩
/-- the cells of the loader's block. -/
theorem Ld.cells {L : Fls} {W : World} {c : Lw} {S : Sx} (h : Ld L W c S) : W.cell? ⟨c.lb, 0, none⟩ = some (.pointer (some ⟨c.tb, 0, none⟩)) ∧ W.cell? ⟨c.lb, 1, none⟩ = some S.vm ∧ W.cell? ⟨c.lb, 2, none⟩ = some (.map (some c.nb)) ∧ W.cell? ⟨c.lb, 3, none⟩ = some (.map (some c.gb)) := (box4 h.l).1
theorem under_nu : Tryz.prog.underlying 45 = some (.map 9 3) := by kernel_rfl
theorem under_tg : Tryz.prog.underlying 46 = some (.map 52 3) := by kernel_rfl
theorem zeroInt (w : World) : (zeroValue 3).run Tryz.prog w = .ok (.int .i64 0) w := by kernel_rfl
/-- a module's number is asked. -/
theorem Ld.num {L : Fls} {W : World} {c : Lw} {S : Sx} (h : Ld L W c S) (k : ByteArray) : (Instr.lookup 45 (.map (some c.nb)) (.string k) true).run Tryz.prog W = .ok (.tuple #[((S.num k).map vI).getD (.int .i64 0), .bool (S.num k).isSome]) W := by
  obtain ⟨n, m⟩ := h.nu
  exact m.look keyTX under_nu (zeroInt W) k trivial true
theorem Ld.tgt {L : Fls} {W : World} {c : Lw} {S : Sx} (h : Ld L W c S) (k : Qn) : (Instr.lookup 46 (.map (some c.gb)) (.agg #[.string k.1, .string k.2]) true).run Tryz.prog W = .ok (.tuple #[((S.tgt k).map vI).getD (.int .i64 0), .bool (S.tgt k).isSome]) W := by
  obtain ⟨n, m⟩ := h.tg
  exact m.look keyQ under_tg (zeroInt W) k trivial true
end Go.Proofs.YtfehmdfamndcaaaGreatDoor
namespace Go.Proofs.YtfehmdfamndcaaaGreatDoor
open Go.RowKit Go.MapKept
set_option linter.unusedVariables false
set_option linter.unusedSimpArgs false

theorem t3 {w : World} {b : Nat} {p q r : Value} {t : TypeId} (h : w.heap[b]? = some (.cells #[p, q, r] t (0, 0))) : (w.cell? ⟨b, 0, none⟩ = some p ∧ w.cell? ⟨b, 1, none⟩ = some q ∧ w.cell? ⟨b, 2, none⟩ = some r) ∧ (w.frozen? ⟨b, 0, none⟩ = false ∧ w.frozen? ⟨b, 1, none⟩ = false ∧ w.frozen? ⟨b, 2, none⟩ = false) := by
  simp [World.cell?, World.frozen?, h]
theorem t2 {w : World} {b : Nat} {p q : Value} {t : TypeId} (h : w.heap[b]? = some (.cells #[p, q] t (0, 0))) : w.cell? ⟨b, 0, none⟩ = some p ∧ w.cell? ⟨b, 1, none⟩ = some q := by
  simp [World.cell?, h]
theorem t3_set {w : World} {b : Nat} {p q r : Value} {t : TypeId} {fr : Nat × Nat} (p' q' r' : Value) (h : w.heap[b]? = some (.cells #[p, q, r] t fr)) :
    (((w.setCell ⟨b, 0, none⟩ p').setCell ⟨b, 1, none⟩ q').setCell ⟨b, 2, none⟩ r').heap[b]? = some (.cells #[p', q', r'] t fr) := by
  simp [World.setCell, Array.getElem?_modify, h]
theorem res_fol {fn : Func} {p q : Nat} (h : fn.results = #[.tmp q, .cell p 54]) {W : World} {n : Nat} {a b d : Value} {t : TypeId} {tmps : Array Value} (hb : W.heap[n]? = some (.cells #[a, b, d] t (0, 0))) (ht : tmps[p]?.getD undef = .pointer (some ⟨n, 0, none⟩)) :
    (results fn tmps).run Tryz.prog W = .ok (.tuple #[tmps[q]?.getD undef, .agg #[a, b, d]]) W := by
  obtain ⟨⟨c0, c1, c2⟩, _⟩ := t3 hb
  simp [results, h, go_sem, ht, c0, c1, c2]
theorem res_vis {fn : Func} {p : Nat} (h : fn.results = #[.cell p 54]) {W : World} {n : Nat} {a b d : Value} {t : TypeId} {tmps : Array Value} (hb : W.heap[n]? = some (.cells #[a, b, d] t (0, 0))) (ht : tmps[p]?.getD undef = .pointer (some ⟨n, 0, none⟩)) :
    (results fn tmps).run Tryz.prog W = .ok (.agg #[a, b, d]) W := by
  obtain ⟨⟨c0, c1, c2⟩, _⟩ := t3 hb
  simp [results, h, go_sem, ht, c0, c1, c2]
/-- a fault is an error. -/
def Okf (f : Option Ft) : Prop := ∀ x, f = some x → x.2 ≠ 0
theorem okf_none : Okf none := fun x h => by cases h
theorem okf_some {q : Qn} {e : Int} (h : e ≠ 0) : Okf (some (q, e)) := fun x hx => by cases hx; exact h
/-- what visit answers, from so many modules on. -/
def VisC (L : Fls) (MR : ByteArray → Nd) (c : Lw) (d : Nat) : Prop := ∀ (W : World) (S : Sx) (file : ByteArray), Ld L W c S → S.ms.length + 1 ≤ 64 → 65 ≤ d + S.ms.length → hasP file L = true → file.size ≤ 200 →
    Calls Tryz.prog 19 #[.pointer (some ⟨c.lb, 0, none⟩), .string file] W fun e W' => ∃ S' f, e = .returned (fv f) ∧ Vis L MR file S S' f ∧ Ld L W' c S' ∧ Fr W c S W' S' ∧ Okf f
theorem prbF_mem {f : ByteArray → Bool} {p file : ByteArray} (h : prbF f p = some file) : f file = true ∧ file.size ≤ 200 := by
  unfold prbF at h
  refine ⟨List.find?_some h, ?_⟩
  obtain ⟨x, hx, rfl⟩ := List.mem_map.1 (List.mem_of_find?_eq_some h)
  simpa [baL, ByteArray.size] using prb_small hx
set_option maxRecDepth 100000 in
set_option maxHeartbeats 1000000 in
theorem follow_any {L : Fls} {MR : ByteArray → Nd} {c : Lw} {d : Nat} (HV : VisC L MR c d) {W : World} {S : Sx} (h : Ld L W c S) (hd : 65 ≤ d + S.ms.length) (r : Qn) (p : ByteArray) (hp : p.size ≤ 200) (er : Int) :
    Calls Tryz.prog 12 #[.pointer (some ⟨c.lb, 0, none⟩), qv r, .string p, .int .i64 er] W fun e W' => ∃ n S' f, e = .returned (.tuple #[.int .i64 n, fv f]) ∧ Fol L MR r p er S n S' f ∧ Ld L W' c S' ∧ Fr W c S W' S' ∧ Okf f := by
  obtain ⟨W0, hW0⟩ : ∃ X, (W.alloc (Obj.cells #[Value.string r.1, Value.string r.2] 52)).alloc (Obj.cells #[Value.string ⟨#[]⟩, Value.string ⟨#[]⟩, Value.int IntKind.i64 0] 54) = X := ⟨_, rfl⟩
  have b0 : Below W.heap.size W W0 := by rw [← hW0]; exact ((Below.refl _ _).alloc (Nat.le_refl _) _).alloc (by simp) _
  have mr : W0.heap[W.heap.size]? = some (.cells #[Value.string r.1, Value.string r.2] 52 (0, 0)) := by rw [← hW0]; exact hold _ (by simp) (hnew _ rfl)
  have mf : W0.heap[W.heap.size + 1]? = some (.cells #[Value.string ⟨#[]⟩, Value.string ⟨#[]⟩, Value.int IntKind.i64 0] 54 (0, 0)) := by rw [← hW0]; exact hnew _ (by simp)
  have s0 : W0.heap.size = W.heap.size + 2 := by rw [← hW0]; simp
  have HS0 : Hid (W0.heap.size = W.heap.size + 2) := s0
  have hl := h.ltl
  have h0 := h.bel b0
  have f0 : Fr W c S W0 S := Fr.of b0
  unfold qv
  by_cases he : er = 0
  · subst he
    have CP := probe_any W0 c.tb c.mb L p h0.tab (by omega)
    obtain ⟨e0, e1, e2, e3⟩ := h0.cells
    go_enter Tryz.func12, Tryz.ntmps12
    go_wp2_with fail
    go_at_call 14
    refine CP.mono ?_
    rintro e W1 ⟨rfl, b1⟩
    have h1 := h0.bel b1
    have f1 := f0.trans (Fr.of (S := S) b1)
    have mr1 := (b1.block _ (by omega)).trans mr
    have mf1 := (b1.block _ (by omega)).trans mf
    clear e0 e1 e2 e3 hW0
    obtain ⟨e0, e1, e2, e3⟩ := h1.cells
    obtain ⟨u0, u1⟩ := t2 mr1
    obtain ⟨⟨q0, q1, q2⟩, g0, g1, g2⟩ := t3 mf1
    have bw1 : Below W.heap.size W W1 := b0.trans (b1.mono b0.size)
    have H3 : Hid (∀ (X : World) (a b d : Value), X = W1 ∨ X = W1.drew → Below W.heap.size W (((X.setCell ⟨W.heap.size + 1, 0, none⟩ a).setCell ⟨W.heap.size + 1, 1, none⟩ b).setCell ⟨W.heap.size + 1, 2, none⟩ d)) := fun X a b d hX => by
      have bX : Below W.heap.size W X := by rcases hX with rfl | rfl; exact bw1; exact bw1.drew
      exact ((bX.setCell (p := ⟨W.heap.size + 1, 0, none⟩) (by simp) _).setCell (p := ⟨W.heap.size + 1, 1, none⟩) (by simp) _).setCell (p := ⟨W.heap.size + 1, 2, none⟩) (by simp) _
    cases hpr : prbF (fun q => hasP q L) p with
    | none =>
      simp only [Option.getD, Option.isSome]
      go_wp2
      go_region
      go_wp2
      refine bodyPost_ret (res_fol Tryz.results12 (t3_set (Value.string r.1) (Value.string r.2) (Value.int IntKind.i64 100) (b := W.heap.size + 1) (by first | exact mf1 | exact mf1)) rfl) rfl ⟨0, S, some (r, 100), rfl, .miss hpr, ?_, ?_, okf_some (by decide)⟩
      · exact h.bel (H3.out W1 _ _ _ (.inl rfl)).drew
      · exact Fr.of (H3.out W1 _ _ _ (.inl rfl)).drew
    | some file =>
      simp only [Option.getD, Option.isSome]
      have LN := h1.num file
      cases hn : S.num file with
      | some n =>
        rw [hn] at LN
        simp only [Option.map, Option.getD, Option.isSome, vI] at LN
        go_wp2
        refine bodyPost_ret (res_fol Tryz.results12 (t3_set (Value.string ⟨#[]⟩) (Value.string ⟨#[]⟩) (Value.int IntKind.i64 0) (b := W.heap.size + 1) mf1) rfl) rfl ⟨n, S, none, rfl, .old hpr hn, ?_, ?_, okf_none⟩
        · exact h.bel (H3.out _ _ _ _ (by first | exact .inl rfl | exact .inr rfl))
        · exact Fr.of (H3.out _ _ _ _ (by first | exact .inl rfl | exact .inr rfl))
      | none =>
        rw [hn] at LN
        simp only [Option.map, Option.getD, Option.isSome] at LN
        obtain ⟨av, cv, hvm⟩ := Pa.row_form h1.row
        rw [hvm] at e1
        by_cases h64 : S.ms.length = 64
        · have h64' : ((S.ms.length : Nat) : Int) = 64 := by omega
          have h64b : (((S.ms.length : Nat) : Int) == 64) = true := by simpa using h64'
          go_wp2
          go_region
          go_wp2
          refine bodyPost_ret (res_fol Tryz.results12 (t3_set (Value.string r.1) (Value.string r.2) (Value.int IntKind.i64 101) (b := W.heap.size + 1) (by first | exact mf1 | exact mf1)) rfl) rfl ⟨0, S, some (r, 101), rfl, .many hpr hn h64, ?_, ?_, okf_some (by decide)⟩
          · exact h.bel (H3.out W1 _ _ _ (.inl rfl)).drew
          · exact Fr.of (H3.out W1 _ _ _ (.inl rfl)).drew
        · have h64b : (((S.ms.length : Nat) : Int) == 64) = false := by
            have : ¬ ((S.ms.length : Nat) : Int) = 64 := by omega
            simpa using this
          have hle := h.le
          obtain ⟨hhas, hfs⟩ := prbF_mem hpr
          have bd : Below W1.heap.size W1 W1.drew := (Below.refl _ _).drew
          have CV := HV W1.drew S file (h1.bel bd) (by omega) hd hhas hfs
          have HE : Hid (∀ (W2 : World) (S' : Sx), Ld L W2 c S' → Fr W1.drew c S W2 S' → ∃ av' cv', W2.cell? ⟨c.lb, 1, none⟩ = some (.slice av' S'.ms.length cv') ∧ W2.heap[W.heap.size + 1]? = some (.cells #[Value.string ⟨#[]⟩, Value.string ⟨#[]⟩, Value.int IntKind.i64 0] 54 (0, 0)) ∧ ∀ a b d, Ld L (((W2.setCell ⟨W.heap.size + 1, 0, none⟩ a).setCell ⟨W.heap.size + 1, 1, none⟩ b).setCell ⟨W.heap.size + 1, 2, none⟩ d) c S' ∧ Fr W c S (((W2.setCell ⟨W.heap.size + 1, 0, none⟩ a).setCell ⟨W.heap.size + 1, 1, none⟩ b).setCell ⟨W.heap.size + 1, 2, none⟩ d) S') := fun W2 S' hL hF => by
            obtain ⟨av', cv', hv'⟩ := Pa.row_form hL.row
            have fgk : Fg c S (W.heap.size + 1) := h.fg (by omega)
            have hlt : W.heap.size + 1 < W1.drew.heap.size := (Array.getElem?_eq_some_iff.1 mf1).1
            have fg' := hF.fg hlt fgk
            have hbl := h.bl
            refine ⟨av', cv', by rw [hL.cells.2.1, hv'], (hF.block _ hlt fgk.l fgk.n fgk.g fgk.v).trans mf1, fun a b d => ?_⟩
            have hoff : ∀ j, j ≠ W.heap.size + 1 → j < W2.heap.size → (((W2.setCell ⟨W.heap.size + 1, 0, none⟩ a).setCell ⟨W.heap.size + 1, 1, none⟩ b).setCell ⟨W.heap.size + 1, 2, none⟩ d).heap[j]? = W2.heap[j]? := fun j hj _ => (Below.heap_setCell _ _ _ _ hj).trans ((Below.heap_setCell _ _ _ _ hj).trans (Below.heap_setCell _ _ _ _ hj))
            have hbw : ∀ B, B ≤ W.heap.size + 1 → Below B W2 (((W2.setCell ⟨W.heap.size + 1, 0, none⟩ a).setCell ⟨W.heap.size + 1, 1, none⟩ b).setCell ⟨W.heap.size + 1, 2, none⟩ d) := fun B hB => (((Below.refl B W2).setCell (p := ⟨W.heap.size + 1, 0, none⟩) hB _).setCell (p := ⟨W.heap.size + 1, 1, none⟩) hB _).setCell (p := ⟨W.heap.size + 1, 2, none⟩) hB _
            exact ⟨hL.put fg' (by omega) hoff (hbw _ (by omega)), ((f1.trans (Fr.of (S := S) bd)).trans hF).put (k := W.heap.size + 1) (by omega) hoff (hbw _ (by omega))⟩
          clear g0 g1 g2 q0 q1 q2 u0 u1 H3 CP h0 f0 mr1 b0 mr mf
          go_wp2_with fail
          go_region_law (refine step_call2 (by rfl) 19 _ _ _ (by rfl) (.pointer (some ⟨c.lb, 0, none⟩)) (.string file) (by rfl) (by rfl) (enters_of Tryz.func19 (by kernel_rfl) rfl) CV ?_
                         rintro e W2 ⟨S', f, rfl, hVis, hL2, hF2, hOk⟩
                         obtain ⟨fa, fb, fd, hfv⟩ : ∃ a b d, fv f = .agg #[.string a, .string b, .int .i64 d] := by cases f <;> exact ⟨_, _, _, rfl⟩
                         have HFV : Hid (fv f = .agg #[.string fa, .string fb, .int .i64 fd]) := hfv
                         rw [hfv]
                         clear hfv
                         refine ⟨_, rfl, ?_⟩
                         obtain ⟨av', cv', k1, m2, hfin⟩ := HE.out W2 S' hL2 hF2
                         obtain ⟨⟨_, _, _⟩, _, _, _⟩ := t3 m2)
          all_goals
            go_wp2
            have hfx := hfin (Value.string fa) (Value.string fb) (Value.int IntKind.i64 fd)
            refine bodyPost_ret (res_fol Tryz.results12 (t3_set _ _ _ (b := W.heap.size + 1) m2) rfl) rfl ⟨_, S', f, by rw [HFV.out]; rfl, .new hpr hn h64 hVis, hfx.1, hfx.2, hOk⟩
  · have hw := t3_set (Value.string r.1) (Value.string r.2) (Value.int IntKind.i64 er) mf
    obtain ⟨u0, u1⟩ := t2 mr
    obtain ⟨⟨q0, q1, q2⟩, g0, g1, g2⟩ := t3 mf
    have he' : (er != 0) = true := by simpa using he
    go_enter Tryz.func12, Tryz.ntmps12
    go_wp2
    go_region
    go_wp2
    refine bodyPost_ret (res_fol Tryz.results12 (t3_set (Value.string r.1) (Value.string r.2) (Value.int IntKind.i64 er) (b := W.heap.size + 1) (by first | exact mf | exact mf)) rfl) rfl ⟨0, S, some (r, er), rfl, .err he, ?_, ?_, okf_some he⟩
    · exact h.bel (((b0.drew.setCell (p := ⟨W.heap.size + 1, 0, none⟩) (by simp) _).setCell (p := ⟨W.heap.size + 1, 1, none⟩) (by simp) _).setCell (p := ⟨W.heap.size + 1, 2, none⟩) (by simp) _)
    · exact Fr.of (((b0.drew.setCell (p := ⟨W.heap.size + 1, 0, none⟩) (by simp) _).setCell (p := ⟨W.heap.size + 1, 1, none⟩) (by simp) _).setCell (p := ⟨W.heap.size + 1, 2, none⟩) (by simp) _)
end Go.Proofs.YtfehmdfamndcaaaGreatDoor
namespace Go.Proofs.YtfehmdfamndcaaaGreatDoor
open Go.RowKit Go.MapKept
set_option linter.unusedVariables false
set_option linter.unusedSimpArgs false

theorem own_cells {w : World} {base : Nat} {e : TypeId} {size : Nat} {v : Value} {n : Nat} {xs : List Value} (h : w.ownsRow base e size v n xs) {g : Nat} (hg : v.ownBlock = some g) : ∃ cur, w.heap[g]? = some (.cells cur e (0, 0)) := by
  rcases h.2 with ⟨rfl, _⟩ | ⟨g', cap, cur, rfl, _, hc, _⟩
  · cases hg
  · obtain rfl : g' = g := by simpa [Value.ownBlock] using hg
    exact ⟨cur, hc⟩
theorem MF.map_ {κ υ : Type} {G : κ → Prop} {ek : κ → Value} {ev : υ → Value} {w : World} {b n : Nat} {f : κ → Option υ} (h : MF G ek ev w b n f) : ∃ es cl, w.heap[b]? = some (.map es cl) := by
  obtain ⟨es, cl, h, _⟩ := h
  exact ⟨es, cl, h⟩
/-- a map's block is no row's, nor the loader's own. -/
theorem Ld.apartM {L : Fls} {W : World} {c : Lw} {S : Sx} (h : Ld L W c S) {k : Nat} (hk : ∃ es cl, W.heap[k]? = some (.map es cl)) : k ≠ c.lb ∧ S.vm.ownBlock ≠ some k ∧ ∀ (i : Nat) (m : Md), S.ms[i]? = some m → m.rv.ownBlock ≠ some k := by
  obtain ⟨es, cl, hm⟩ := hk
  refine ⟨fun e => ?_, fun e => ?_, fun i m hi e => ?_⟩
  · rw [e, h.l] at hm; cases hm
  · obtain ⟨cur, hc⟩ := own_cells h.row e; rw [hc] at hm; cases hm
  · obtain ⟨cur, hc⟩ := own_cells (h.rq i m hi) e; rw [hc] at hm; cases hm
theorem Ld.upT {L : Fls} {W W' : World} {c : Lw} {S : Sx} (h : Ld L W c S) (g : W.grownBy W' (some c.gb)) {f' : Qn → Option Int} (m : ∃ n, MF (fun _ => True) qv vI W' c.gb n f') : Ld L W' c { S with tgt := f' } ∧ Fr W c S W' { S with tgt := f' } := by
  obtain ⟨n1, m1⟩ := h.nu
  obtain ⟨n2, m2⟩ := h.tg
  obtain ⟨x1, x2, x3⟩ := h.apartM m2.map_
  have blk : ∀ k, k < W.heap.size → k ≠ c.gb → W'.heap[k]? = W.heap[k]? := fun k h1 h2 => g.block k h1 (fun e => h2 (by simpa using e))
  have bw : Below c.B W W' := ⟨g.os, g.tape, g.output, g.size, fun k hk => blk k (by have := h.bl; have := h.ltl; omega) (by have := h.bg; omega)⟩
  refine ⟨⟨(blk _ h.ltl x1.symm).trans h.l, row_off h.row (fun q hq => blk q (row_lt h.row q hq).2 (fun e => x2 (by rw [hq, e]))), ⟨n1, m1.keep (blk _ m1.lt h.a4)⟩, m, fun i y hy => row_off (h.rq i y hy) (fun q hq => blk q (row_lt (h.rq i y hy) q hq).2 (fun e => x3 i y hy (by rw [hq, e]))), h.a1, h.a2, h.a3, h.a4, h.bl, h.bn, h.bg, h.tab.below bw h.t1 h.t2, h.t1, h.t2, h.env.keep bw h.ov, h.ov, h.le⟩, ?_⟩
  exact ⟨g.os, g.tape, g.output, g.size, fun k h1 _ _ h4 _ => blk k h1 h4, fun g h => .inl h, fun _ _ => rfl, Nat.le_refl _, fun i y hi hy => by rw [List.getElem?_eq_none hi] at hy; cases hy⟩
theorem Ld.upN {L : Fls} {W W' : World} {c : Lw} {S : Sx} (h : Ld L W c S) (g : W.grownBy W' (some c.nb)) {f' : ByteArray → Option Int} (m : ∃ n, MF (fun _ => True) kS vI W' c.nb n f') : Ld L W' c { S with num := f' } ∧ Fr W c S W' { S with num := f' } := by
  obtain ⟨n1, m1⟩ := h.nu
  obtain ⟨n2, m2⟩ := h.tg
  obtain ⟨x1, x2, x3⟩ := h.apartM m1.map_
  have blk : ∀ k, k < W.heap.size → k ≠ c.nb → W'.heap[k]? = W.heap[k]? := fun k h1 h2 => g.block k h1 (fun e => h2 (by simpa using e))
  have bw : Below c.B W W' := ⟨g.os, g.tape, g.output, g.size, fun k hk => blk k (by have := h.bl; have := h.ltl; omega) (by have := h.bn; omega)⟩
  refine ⟨⟨(blk _ h.ltl x1.symm).trans h.l, row_off h.row (fun q hq => blk q (row_lt h.row q hq).2 (fun e => x2 (by rw [hq, e]))), m, ⟨n2, m2.keep (blk _ m2.lt h.a4.symm)⟩, fun i y hy => row_off (h.rq i y hy) (fun q hq => blk q (row_lt (h.rq i y hy) q hq).2 (fun e => x3 i y hy (by rw [hq, e]))), h.a1, h.a2, h.a3, h.a4, h.bl, h.bn, h.bg, h.tab.below bw h.t1 h.t2, h.t1, h.t2, h.env.keep bw h.ov, h.ov, h.le⟩, ?_⟩
  exact ⟨g.os, g.tape, g.output, g.size, fun k h1 _ h3 _ _ => blk k h1 h3, fun g h => .inl h, fun _ _ => rfl, Nat.le_refl _, fun i y hi hy => by rw [List.getElem?_eq_none hi] at hy; cases hy⟩
/-- three cells of a block that is none of the loader's. -/
theorem put3 {L : Fls} {W0 W : World} {c : Lw} {S S' : Sx} (hL : Ld L W c S') (hF : Fr W0 c S W S') {k : Nat} (hk : W0.heap.size ≤ k) (fg : Fg c S' k) (hB : c.B ≤ W0.heap.size) (a b d : Value) : Ld L (((W.setCell ⟨k, 0, none⟩ a).setCell ⟨k, 1, none⟩ b).setCell ⟨k, 2, none⟩ d) c S' ∧ Fr W0 c S (((W.setCell ⟨k, 0, none⟩ a).setCell ⟨k, 1, none⟩ b).setCell ⟨k, 2, none⟩ d) S' := by
  have hoff : ∀ j, j ≠ k → j < W.heap.size → (((W.setCell ⟨k, 0, none⟩ a).setCell ⟨k, 1, none⟩ b).setCell ⟨k, 2, none⟩ d).heap[j]? = W.heap[j]? := fun j hj _ => (Below.heap_setCell _ _ _ _ hj).trans ((Below.heap_setCell _ _ _ _ hj).trans (Below.heap_setCell _ _ _ _ hj))
  have hbw : ∀ B, B ≤ k → Below B W (((W.setCell ⟨k, 0, none⟩ a).setCell ⟨k, 1, none⟩ b).setCell ⟨k, 2, none⟩ d) := fun B hB => (((Below.refl B W).setCell (p := ⟨k, 0, none⟩) hB _).setCell (p := ⟨k, 1, none⟩) hB _).setCell (p := ⟨k, 2, none⟩) hB _
  exact ⟨hL.put fg (by omega) hoff (hbw _ (by omega)), hF.put (k := k) (by omega) hoff (hbw _ (by omega))⟩
theorem Ld.drew {L : Fls} {W : World} {c : Lw} {S : Sx} (h : Ld L W c S) : Ld L W.drew c S := h.bel ((Below.refl _ _).drew)
theorem Fr.drew {W W' : World} {c : Lw} {S S' : Sx} (h : Fr W c S W' S') : Fr W c S W'.drew S' := h.trans (Fr.of (S := S') ((Below.refl _ _).drew))
theorem ft_struct : Tryz.prog.underlying 54 = some (.struct (Tryz.prog.fieldsOf 54)) := by kernel_rfl
theorem ft_held : Tryz.prog.stoodInHeld 54 = false := by kernel_rfl
theorem ft_fields : (Tryz.prog.fieldsOf 54).toList = [{ name := "by", type := 52, offset := 0, embedded := false, tag := "", pkgPath := "gusset/graph", byteOffset := 0 }, { name := "err", type := 32, offset := 2, embedded := false, tag := "", pkgPath := "gusset/graph", byteOffset := 32 }] := by kernel_rfl
theorem ft_eql (W : World) (a b : ByteArray) (d : Int) : (binOp .eql 54 (.agg #[.string a, .string b, .int .i64 d]) (.agg #[.string ⟨#[]⟩, .string ⟨#[]⟩, .int .i64 0])).run Tryz.prog W = .ok (.bool (a.toList == [] && b.toList == [] && d == 0)) W := by
  have a9 := Tryz.isAgg9
  have u9 := Tryz.underlying9
  have a72 := Tryz.isAgg52
  have z72 := Tryz.sizeOf52
  have a44 := Tryz.isAgg32
  have u44 := Tryz.underlying32
  have hq : ∀ (W : World), (Op.equalIn 9999 52 (.agg #[.string a, .string b]) (.agg #[.string ⟨#[]⟩, .string ⟨#[]⟩])).run Tryz.prog W = .ok (a.toList == [] && b.toList == []) W := fun W => by
    rw [show (9999 : Nat) = 9998 + 1 from rfl, run_equalIn_struct W 9998 _ _ _ q_struct q_held, q_fields]
    have em : (⟨#[]⟩ : ByteArray).toList = [] := ByteArray.toList_eq _
    cases e1 : (a.toList == []) <;> cases e2 : (b.toList == []) <;> simp [Op.eqFields, go_sem, a9, u9, em, e1, e2]
  rw [run_eql_struct, run_equalIn_struct W 9999 _ _ _ ft_struct ft_held, ft_fields]
  cases e1 : (a.toList == []) <;> cases e2 : (b.toList == []) <;> cases e3 : (d == 0) <;> simp [Op.eqFields, go_sem, a72, z72, a44, u44, hq, e1, e2, e3]
end Go.Proofs.YtfehmdfamndcaaaGreatDoor
