/- Own text. A tree as it is read. The words as they are laid, and a world for the witness. -/
import Derived.Test.YtfcocoadaajbjaaGreatDoorGd05
import Derived.Test.YtfcocoadaajbjaaGreatDoorRows
import Derived.ProofKit
import Derived.OpenShut
import Derived.JoinedCond
import Derived.SizedLaws
import Derived.Carry
import Derived.Deep.Slices
import Derived.Test.YtfcocoadaajbjaaGreatDoorCards
import Derived.Test.YtfcocoadaajbjaaGreatDoorTie
import Derived.Test.YtfcocoadaajbjaaGreatDoorGd45
import Derived.Deep.DeepHandedRow
import Derived.Lib.LaidU8T
import Derived.Shelf.Vars
import Derived.Stop.LaidErr
set_option linter.unusedVariables false
set_option linter.unusedSimpArgs false
namespace Go.Proofs.YtfcocoadaajbjaaGreatDoor
open Go.ChangeShapes Go.WideShapes Go.ChangeAt Go.RowKit
theorem bulk_slice {H : Type} (l r : List (DataW H)) : Rows.uptoBulk (.slice l r) = Rows.uptoBulkAll l + Rows.uptoBulkAll r + 1 := by simp [Rows.uptoBulk]
theorem bulk_agg {H : Type} (l : List (DataW H)) : Rows.uptoBulk (.agg l) = Rows.uptoBulkAll l + 1 := by simp [Rows.uptoBulk]
theorem bulk_text {H : Type} (l : List UInt8) : Rows.uptoBulk (.lit (.string l) : DataW H) = l.length + 1 := by simp [Rows.uptoBulk]
theorem bulk_mem {H : Type} : ∀ {l : List (DataW H)} {d : DataW H}, d ∈ l → Rows.uptoBulk d ≤ Rows.uptoBulkAll l
  | x :: r, d, h => by
    simp only [Rows.uptoBulkAll]
    rcases List.mem_cons.1 h with rfl | h
    · omega
    · have := bulk_mem h; omega
theorem bulk_sizes {H : Type} (D : Nat → DataW H) (q : Nat → Nd) : ∀ l : List Nat, (∀ i ∈ l, (q i).size ≤ Rows.uptoBulk (D i)) → sizes (l.map q) ≤ Rows.uptoBulkAll (l.map D)
  | [], _ => by simp [sizes_nil]
  | i :: l, h => by
    have h1 := h i (by simp)
    have h2 := bulk_sizes D q l (fun j hj => h j (by simp [hj]))
    simp only [List.map_cons, sizes_cons, Rows.uptoBulkAll] at h2 ⊢
    omega
theorem under_nd : Tryz.prog.underlying 24 = some (.struct #[{ name := "Kind", type := 3, offset := 0, embedded := false, tag := "", pkgPath := "", byteOffset := 0 }, { name := "Text", type := 9, offset := 1, embedded := false, tag := "", pkgPath := "", byteOffset := 8 }, { name := "N", type := 3, offset := 2, embedded := false, tag := "", pkgPath := "", byteOffset := 24 }, { name := "Kids", type := 22, offset := 3, embedded := false, tag := "", pkgPath := "", byteOffset := 32 }]) := by kernel_rfl
theorem cells_nd : Tryz.prog.cellsOf 24 = 4 := by kernel_rfl
theorem cells_i : Tryz.prog.cellsOf 3 = 1 := by kernel_rfl
theorem cells_s : Tryz.prog.cellsOf 9 = 1 := by kernel_rfl
theorem cells_l : Tryz.prog.cellsOf 22 = 1 := by kernel_rfl
theorem addr_none {w : World} {a : Addr} {v : Value} (h : w.cell? a = some v) : a = ⟨a.block, a.off, none⟩ := by
  unfold World.cell? at h
  split at h
  · split at h
    · cases h
    · rename_i hs
      obtain ⟨b, o, s⟩ := a
      cases s with
      | none => rfl
      | some _ => simp at hs
  · cases h

theorem addN_plain (b o n : Nat) : (⟨b, o, none⟩ : Addr).add n = ⟨b, o + n, none⟩ := by
  unfold Addr.add
  split
  · rename_i h; simp_all
  · rfl

set_option maxRecDepth 100000 in
theorem nd_open {H : Type} {enc : TypeId × Value → H} {W : World} : ∀ (B : Nat) {n : Nat} {cs : List Value} {d : DataW H} {ps : List MemPlace}, Rows.uptoBulk d ≤ B → DataW.trod enc Tryz.prog W 0 (fun _ => true) true n 24 cs = some (d, ps) →
    ∃ (x : Nd) (v : Value), cs = [.int .i64 x.k, .string x.t, .int .i64 x.n, v] ∧ LAt W (fun b => b < W.heap.size) v x.ks ∧ x.size ≤ Rows.uptoBulk d ∧ ∀ y ∈ x.flat, y.t.size ≤ Rows.uptoBulk d := by
  intro B
  induction B with
  | zero =>
    intro n cs d ps hB h
    obtain ⟨xs, m, _, hxy, _⟩ := DataW.trod_struct under_nd h
    have hd : d = .agg (xs.map (·.1)) := congrArg Prod.fst hxy
    rw [hd, bulk_agg] at hB
    omega
  | succ B ih =>
    intro n cs d ps hB h
    obtain ⟨xs, m, _, hxy, hcl, hxl, hf⟩ := DataW.trod_struct under_nd h
    rw [cells_nd] at hcl
    match cs, hcl with
    | [u0, u1, u2, u3], _ =>
      match xs, hxl with
      | [y0, y1, y2, y3], _ =>
        have g0 : DataW.trod enc Tryz.prog W 0 (fun _ => true) true m 3 [u0] = some y0 := by simpa [cells_i] using hf 0 _ rfl
        have g1 : DataW.trod enc Tryz.prog W 0 (fun _ => true) true m 9 [u1] = some y1 := by simpa [cells_s] using hf 1 _ rfl
        have g2 : DataW.trod enc Tryz.prog W 0 (fun _ => true) true m 3 [u2] = some y2 := by simpa [cells_i] using hf 2 _ rfl
        have g3 : DataW.trod enc Tryz.prog W 0 (fun _ => true) true m 22 [u3] = some y3 := by simpa [cells_l] using hf 3 _ rfl
        obtain ⟨z0, e0, _, _⟩ := DataW.trod_int Tryz.underlying3 g0
        obtain ⟨s1, e1, x1, _⟩ := DataW.trod_string Tryz.underlying9 g1
        obtain ⟨z2, e2, _, _⟩ := DataW.trod_int Tryz.underlying3 g2
        simp only [List.cons.injEq, and_true] at e0 e1 e2
        subst e0 e1 e2
        have hd : d = .agg [y0.1, y1.1, y2.1, y3.1] := by simpa using congrArg Prod.fst hxy
        have hbk : Rows.uptoBulk d = Rows.uptoBulk y0.1 + (s1.data.toList.length + 1) + Rows.uptoBulk y2.1 + Rows.uptoBulk y3.1 + 1 := by
          rw [hd, bulk_agg, x1]
          simp only [Rows.uptoBulkAll, bulk_text]
          omega
        rw [hbk] at hB
        have hs1 : s1.size = s1.data.toList.length := Lib.size_eq s1
        rcases Deep.open_slice Tryz.underlying22 g3 with ⟨h0, hx⟩ | ⟨a, len, cap, mm, nn, D, Pl, h0, _, hl, hm, hmm, hx, hc⟩
        · simp only [List.cons.injEq, and_true] at h0
          subst h0
          refine ⟨.mk z0 s1 z2 [], _, rfl, .nil _ _, ?_, ?_⟩
          · rw [Nd.size_eq]; simp only [Nd.ks, sizes_nil]; omega
          · intro y hy
            rw [Nd.flat_eq] at hy
            simp only [Nd.ks, flats_nil, List.mem_cons, List.not_mem_nil, or_false] at hy
            subst hy
            show s1.size ≤ _
            omega
        · simp only [List.cons.injEq, and_true] at h0
          subst h0
          have hm2 : mm = cap := by rw [hmm]; simp
          subst hm2
          have hd3 : y3.1 = .slice ((List.range len).map D) ((List.range (mm - len)).map fun j => D (len + j)) := by rw [hx]
          have hb3 : Rows.uptoBulk y3.1 = Rows.uptoBulkAll ((List.range len).map D) + Rows.uptoBulkAll ((List.range (mm - len)).map fun j => D (len + j)) + 1 := by rw [hd3, bulk_slice]
          have hea : 0 < len → a = ⟨a.block, a.off, none⟩ := fun h0 => by
            obtain ⟨cs', h1, h2⟩ := hc 0 (by omega)
            rw [cells_nd] at h1
            obtain ⟨_, hlen, hcell⟩ := World.cells?_some h1
            have hle : Rows.uptoBulk (D 0) ≤ Rows.uptoBulkAll ((List.range len).map D) := bulk_mem (List.mem_map.2 ⟨0, List.mem_range.2 h0, rfl⟩)
            obtain ⟨x, v, e, _⟩ := ih (by omega) h2
            subst e
            have c0 := hcell 0 (by omega)
            simp only [Nat.zero_mul, Addr.add, if_true, List.getElem?_cons_zero] at c0
            exact addr_none c0
          have each : ∀ i, i < len → ∃ q : Nd × Value, (Four W a.block (a.off + i * 4) q.1 q.2 ∧ a = ⟨a.block, a.off, none⟩) ∧ LAt W (fun b => b < W.heap.size) q.2 q.1.ks ∧ q.1.size ≤ Rows.uptoBulk (D i) ∧ ∀ y ∈ q.1.flat, y.t.size ≤ Rows.uptoBulk (D i) := fun i hi => by
            obtain ⟨cs', h1, h2⟩ := hc i (by omega)
            rw [cells_nd] at h1
            obtain ⟨_, hlen, hcell⟩ := World.cells?_some h1
            have hle : Rows.uptoBulk (D i) ≤ Rows.uptoBulkAll ((List.range len).map D) := bulk_mem (List.mem_map.2 ⟨i, List.mem_range.2 hi, rfl⟩)
            obtain ⟨x, v, e, hv, hsz, ht⟩ := ih (by omega) h2
            subst e
            have c0 := hcell 0 (by omega)
            have c1 := hcell 1 (by omega)
            have c2 := hcell 2 (by omega)
            have c3 := hcell 3 (by omega)
            simp only [List.getElem?_cons_zero, List.getElem?_cons_succ] at c0 c1 c2 c3
            have ea := hea (by omega)
            refine ⟨(x, v), ⟨?_, ea⟩, hv, hsz, ht⟩
            rw [ea] at c0 c1 c2 c3
            simp only [addN_plain, Nat.add_zero] at c0 c1 c2 c3
            exact ⟨c0, c1, c2, c3⟩
          obtain ⟨q, hq⟩ := @Deep.choose_lt (Nd × Value) ⟨(.mk 0 ByteArray.empty 0 [], default)⟩ len _ each
          have hks : ∀ i (hi : i < ((List.range len).map fun i => (q i).1).length), ((List.range len).map fun i => (q i).1)[i] = (q i).1 := fun i hi => by simp
          have hkl : ((List.range len).map fun i => (q i).1).length = len := by simp
          refine ⟨.mk z0 s1 z2 ((List.range len).map fun i => (q i).1), _, rfl, ?_, ?_, ?_⟩
          · show LAt W _ (.slice (some a) len mm) ((List.range len).map fun i => (q i).1)
            by_cases hz : len = 0
            · subst hz
              exact .nil _ _
            · obtain ⟨⟨f4, ea⟩, _⟩ := hq 0 (by omega)
              rw [ea]
              have := LAt.row (w := W) (S := fun b => b < W.heap.size) a.block a.off mm ((List.range len).map fun i => (q i).1) (fun i => (q i).2) f4.lt f4.lt (fun i hi => by rw [hks i hi]; exact (hq i (by simpa using hi)).1.1) (fun i hi => by rw [hks i hi]; exact (hq i (by simpa using hi)).2.1)
              rwa [hkl] at this
          · rw [Nd.size_eq]
            have := bulk_sizes D (fun i => (q i).1) (List.range len) (fun i hi => (hq i (List.mem_range.1 hi)).2.2.1)
            simp only [Nd.ks]
            omega
          · intro y hy
            rw [Nd.flat_eq] at hy
            rcases List.mem_cons.1 hy with rfl | hy
            · show s1.size ≤ _
              omega
            · have : ∃ i, i < len ∧ y ∈ (q i).1.flat := by
                have hgen : ∀ l : List Nat, y ∈ flats (l.map fun i => (q i).1) → ∃ i ∈ l, y ∈ (q i).1.flat := fun l => by
                  induction l with
                  | nil => intro h; rw [List.map_nil, flats_nil] at h; cases h
                  | cons j l ihl =>
                    intro h
                    rw [List.map_cons, flats_cons] at h
                    rcases List.mem_append.1 h with h | h
                    · exact ⟨j, by simp, h⟩
                    · obtain ⟨i, hi, hy⟩ := ihl h
                      exact ⟨i, by simp [hi], hy⟩
                obtain ⟨i, hi, hyi⟩ := hgen _ hy
                exact ⟨i, List.mem_range.1 hi, hyi⟩
              obtain ⟨i, hi, hyi⟩ := this
              have h1 := (hq i hi).2.2.2 y hyi
              have h2 : Rows.uptoBulk (D i) ≤ Rows.uptoBulkAll ((List.range len).map D) := bulk_mem (List.mem_map.2 ⟨i, List.mem_range.2 hi, rfl⟩)
              omega

set_option maxRecDepth 100000 in
theorem open_node {H : Type} {enc : TypeId × Value → H} {W : World} {base : Nat} {v : Value} {d : DataW H} {ps : List MemPlace} (hv : Value.okWide Tryz.prog W .any base 24 v) (h : DataW.Trod enc Tryz.prog W 0 (fun _ => true) true 24 v d ps) :
    ∃ (x : Nd) (u : Value), v = x.v u ∧ LAt W (fun b => b < W.heap.size) u x.ks ∧ x.size ≤ Rows.uptoBulk d ∧ ∀ y ∈ x.flat, y.t.size ≤ Rows.uptoBulk d := by
  obtain ⟨cs, rfl, hs⟩ := okWide_struct under_nd hv
  obtain ⟨fuel, h⟩ := h
  obtain ⟨x, u, e, h1, h2, h3⟩ := nd_open _ (Nat.le_refl _) h
  refine ⟨x, u, ?_, h1, h2, h3⟩
  have e2 : cs.toList = [.int .i64 x.k, .string x.t, .int .i64 x.n, u] := by simpa [Value.cells] using e
  unfold Nd.v
  congr 1
  exact Array.toList_inj.1 e2
theorem own : ownKnob Tryz.prog.godebug = none := by kernel_rfl
theorem laidOut : laidOutB Tryz.prog = true := by kernel_rfl
theorem below_trodAll {H : Type} {enc : TypeId × Value → H} {P : Program} (hl : laidOutB P = true) {W W' : World} (hb : Below W.heap.size W W') : ∀ (ts : List TypeId) {vs : List Value} {ds : List (DataW H)} {ps : List MemPlace},
    ts.all (fun t => P.readableRec t && decide (t < P.types.size)) = true → DataW.TrodAll enc P W 0 (fun _ => true) true ts vs ds ps → (∀ x ∈ ps, x.block < W.heap.size) →
    DataW.TrodAll enc P W' 0 (fun b => decide (b < W.heap.size)) true ts vs ds ps := by
  intro ts
  induction ts with
  | nil =>
    intro vs ds ps _ h _
    cases vs <;> cases ds <;> first | exact h | exact h.elim
  | cons t ts ih =>
    intro vs ds ps hr h hlt
    obtain ⟨v, vs', d, ds', p, q, rfl, rfl, rfl, h1, h2⟩ := trodAll_cons h
    simp only [List.all_cons, Bool.and_eq_true, decide_eq_true_eq] at hr
    exact ⟨p, q, Below.trod hl hr.1.1 hr.1.2 h1 hb (fun x hx => hlt x (by simp [hx])), ih (by simpa using hr.2) h2 (fun x hx => hlt x (by simp [hx])), rfl⟩

/-- The tables that the rows list. -/
abbrev laidTabs : List (String × DataW Unit) := [("gusset/lex.words", Rows.laid_gusset_lex_words)]

theorem cells_of_texts {W : World} {fuel : Nat} {t e : TypeId} {n : Nat} {cs : List Value} {l : List (List UInt8)} {p : List MemPlace} (ht : Tryz.prog.underlying t = some (.array n e)) (he : Tryz.prog.underlying e = some .string) (hce : Tryz.prog.cellsOf e = 1) (hct : Tryz.prog.cellsOf t = n) (hn : l.length = n)
    (h : DataW.trod (fun _ => ()) Tryz.prog W 0 (fun _ => true) false fuel t cs = some (.agg (l.map fun b => .lit (.string b)), p)) (hcl : cs.length = n) : cs = textC l := by
  apply List.ext_getElem?
  intro i
  by_cases hi : i < n
  · obtain ⟨fuel', d, q, hd, hf⟩ := Lib.array_elem ht h i hi
    rw [hce, Nat.mul_one] at hf
    obtain ⟨s, hc, hx, _⟩ := DataW.trod_string he hf
    have h1 : cs[i]? = some (.string s) := by
      have := congrArg (·[0]?) hc
      simpa [List.getElem?_take, List.getElem?_drop] using this
    simp only [Prod.mk.injEq] at hx
    rw [List.getElem?_map, hx.1] at hd
    obtain ⟨b, hb, e⟩ := Option.map_eq_some_iff.1 hd
    simp only [DataW.lit.injEq, Lit.string.injEq] at e
    rw [h1]
    simp only [textC, List.getElem?_map, hb, Option.map_some, e]
  · rw [List.getElem?_eq_none (by omega), List.getElem?_eq_none (by simp [textC]; omega)]
theorem trod_array_len {W : World} {fuel : Nat} {t e : TypeId} {n : Nat} {cs : List Value} {x : DataW Unit × List MemPlace} (ht : Tryz.prog.underlying t = some (.array n e)) (hct : Tryz.prog.cellsOf t = n)
    (h : DataW.trod (fun _ => ()) Tryz.prog W 0 (fun _ => true) false fuel t cs = some x) : cs.length = n := by
  cases fuel with
  | zero => simp [DataW.trod] at h
  | succ fuel =>
    simp only [DataW.trod, ht, hct] at h
    split at h
    · rename_i hl; simpa using hl
    · cases h
theorem texts_laid {W : World} {name : String} {g : Nat} {t e : TypeId} {n : Nat} (l : List (List UInt8)) (hg : Tryz.prog.globalNamed name = some g) (hty : (Tryz.prog.globals[g]?).map (·.type) = some t) (ht : Tryz.prog.underlying t = some (.array n e)) (he : Tryz.prog.underlying e = some .string) (hce : Tryz.prog.cellsOf e = 1) (hct : Tryz.prog.cellsOf t = n) (hn : l.length = n)
    (h : Lib.VarReads Tryz.prog W name (.agg (l.map fun b => .lit (.string b)))) : ∃ t fr, W.heap[g]? = some (.cells (textC l).toArray t fr) := by
  obtain ⟨g', t', cs, fuel, p, hg', ht', hvar, hd⟩ := h
  obtain rfl := Option.some.inj (hg.symm.trans hg')
  obtain rfl := Option.some.inj (hty.symm.trans ht')
  have hc := cells_of_texts ht he hce hct hn hd (trod_array_len ht hct hd)
  unfold World.var? at hvar
  rw [hg] at hvar
  simp only [Option.bind_some] at hvar
  cases hb : W.heap[g]? with
  | none => rw [hb] at hvar; cases hvar
  | some o =>
    rw [hb] at hvar
    cases o with
    | cells cs' t2 fr =>
      cases hvar
      exact ⟨t2, fr, by rw [← hc]⟩
    | _ => cases hvar
theorem words_is : (Rows.laid_gusset_lex_words : DataW Unit) = .agg (wordsF.map fun b => .lit (.string b)) := by kernel_rfl
theorem env_of {W : World} (h : laidMetH Tryz.prog laidTabs W) (hsh : W.ShapedOpen Tryz.prog) : WEnv W := by
  have hl : laidMet Tryz.prog laidTabs W := h
  have r4 : Lib.VarReads Tryz.prog W "gusset/lex.words" Rows.laid_gusset_lex_words := Lib.laidMet.reads hl (by simp)
  rw [words_is] at r4
  exact texts_laid (g := 0) wordsF (by kernel_rfl) (by kernel_rfl) Tryz.underlying92 Tryz.underlying9 (by kernel_rfl) (by kernel_rfl) rfl r4
def layCells (C : Array Value) : Obj → Obj
  | .cells _ t frozen => .cells C t frozen
  | o => o
/-- The table's block, holding what its initialiser lays: for the witness. -/
def layTabs (h : Array Obj) : Array Obj := h.modify 0 (layCells (textC wordsF).toArray)
end Go.Proofs.YtfcocoadaajbjaaGreatDoor
