/- Own text. A tree copied and told to a round, in whatever order. -/
import Derived.Test.YtggahoefbcnaiaaDoorW2
import Derived.Test.YtggahoefbcnaiaaDoorRInv
namespace Go.Proofs.YtggahoefbcnaiaaDoor
open Go.RowKit
set_option linter.unusedVariables false
set_option linter.unusedSimpArgs false

/-- a region that draws its order, within a round: what holds at every set of operations that are done. -/
theorem wpAnyIn_inv {F : Fence} {n : Nat} {P : Program} {md : Region.Mode} {ops : Array Oper} {Q : Exit → Act → World → Prop} (Inv : Array Bool → Act → World → Prop)
    (step : ∀ (listed : Array Bool) a w i, Inv listed a w → i ∈ Region.ready md ops listed → ∀ K : Act → World → Prop, (∀ a' w', Inv (listed.setIfInBounds i true) a' w' → K a' w') → wpOpIn F n P ops Q i K a w)
    (done : ∀ listed a w, Inv listed a w → Region.ready md ops listed = [] → Q .normal a w) :
    ∀ (fuel : Nat) (listed : Array Bool) a w, listed.toList.count false ≤ fuel → Inv listed a w → wpAnyIn F n P md ops Q fuel listed a w := by
  intro fuel
  induction fuel with
  | zero =>
    intro listed a w hc hI
    have hr : Region.ready md ops listed = [] := by
      cases h : Region.ready md ops listed with
      | nil => rfl
      | cons i rs =>
        obtain ⟨_, hi, hf⟩ := mem_ready (i := i) (by rw [h]; simp)
        have : false ∈ listed.toList := by
          rw [← hf]
          exact Array.getElem_mem_toList hi
        have := List.count_pos_iff.2 this
        omega
    exact ⟨hr, done listed a w hI hr⟩
  | succ fuel ih =>
    intro listed a w hc hI
    refine ⟨fun hr => done listed a w hI hr, fun i hi => ?_⟩
    obtain ⟨_, hl, hf⟩ := mem_ready hi
    refine step listed a w i hI hi _ (fun a' w' hI' => ih _ a' w' ?_ hI')
    rw [Array.toList_setIfInBounds, List.count_set (by simpa using hl)]
    have hf' : listed.toList[i]'(by simpa using hl) = false := by rw [← hf]; simp
    have : 0 < listed.toList.count false := List.count_pos_iff.2 (by rw [← hf]; exact Array.getElem_mem_toList hl)
    rw [hf', if_pos (by rfl), if_neg (by decide)]
    omega
theorem stepIn_val {l n : Nat} {ops : Array Oper} {o : Oper} {a : Act} {w : World} {K : Act → World → Prop} {Q : Exit → Act → World → Prop} {E : Prop} (hg : o.guard = none) (hd : ∀ c, o.op ≠ .defer c) (v : Value) (hr : (execOp a.eval o).run Tryd.prog w = .ok (.value v) w) (h : K (a.put o.dst v) w) :
    if Region.wanted o (yielded ops a.tmps) = true then Oper.wpIn (Fence.wide.inRound l) n Tryd.prog o a w K Q else E := by
  have hw : Region.wanted o (yielded ops a.tmps) = true := by simp [Region.wanted, hg]
  rw [if_pos hw]
  refine ⟨fun _ _ => trivial, ?_⟩
  show Oper.uponIn _ _ _ _ _ _ _ ((Oper.semAt (some l) a.eval o).run _ _)
  rw [Oper.semAt_some _ _ _ hd, hr, Oper.uponIn_value]
  exact h
theorem stepIn_call1 {l n : Nat} {ops : Array Oper} {o : Oper} {a : Act} {w : World} {K : Act → World → Prop} {Q : Exit → Act → World → Prop} {E : Prop} (hg : o.guard = none) (f : FuncId) (x1 : Operand) (ts : Array TypeId)
    (hop : o.op = .call { callee := .value (.func f), args := #[x1], argTypes := ts }) (v1 : Value) (h1 : a.eval x1 = v1) (hent : ∀ args w, (callFunc f args).run Tryd.prog w = .ok (.enter f args) w)
    {R : Ending → World → Prop} (hc : Calls Tryd.prog f #[v1] w R) (h : ∀ e w', R e w' → ∃ v, e = .returned v ∧ K (a.put o.dst v) w') :
    if Region.wanted o (yielded ops a.tmps) = true then Oper.wpIn (Fence.wide.inRound l) n Tryd.prog o a w K Q else E := by
  have hw : Region.wanted o (yielded ops a.tmps) = true := by simp [Region.wanted, hg]
  rw [if_pos hw]
  refine ⟨fun _ _ => trivial, ?_⟩
  show Oper.uponIn _ _ _ _ _ _ _ ((Oper.semAt (some l) a.eval o).run _ _)
  have e : (execOp a.eval o).run Tryd.prog w = .ok (.enter f #[v1]) w := by
    subst h1
    simp [execOp, hop, resolve, invoke, go_sem, hent]
  rw [Oper.semAt_some _ _ _ (by rw [hop]; intro c h; cases h), e, Oper.uponIn_enter]
  refine ⟨fun h => by simp [Fence.inRound, Fence.wide] at h, CallsIn.inRound l (callsIn_wide.2 (hc.mono fun e w' hr => ?_))⟩
  obtain ⟨v, rfl, hk⟩ := h e w' hr
  exact hk
theorem stepIn_yield {l n : Nat} {ops : Array Oper} {o : Oper} {a : Act} {w : World} {K : Act → World → Prop} {Q : Exit → Act → World → Prop} {E : Prop} (hg : o.guard = none) (s x1 x2 : Operand) (ts : Array TypeId)
    (hop : o.op = .call { callee := .value s, args := #[x1, x2], argTypes := ts }) (l' : Nat) (hs : a.eval s = .func (.yield l') #[] #[]) (v1 v2 : Value) (h1 : a.eval x1 = v1) (h2 : a.eval x2 = v2)
    {R : Ending → World → Prop} (hc : YieldAt Fence.wide (n - 1) Tryd.prog l' #[v1, v2] w R) (h : ∀ e w', R e w' → ∃ v, e = .returned v ∧ K (a.put o.dst v) w') :
    if Region.wanted o (yielded ops a.tmps) = true then Oper.wpIn (Fence.wide.inRound l) n Tryd.prog o a w K Q else E := by
  have hw : Region.wanted o (yielded ops a.tmps) = true := by simp [Region.wanted, hg]
  rw [if_pos hw]
  refine ⟨fun _ _ => trivial, ?_⟩
  show Oper.uponIn _ _ _ _ _ _ _ ((Oper.semAt (some l) a.eval o).run _ _)
  obtain ⟨fn, tmps, asg, bod, hy, hR⟩ := hc
  have e : ∀ ev : Operand → Value, ev s = .func (.yield l') #[] #[] → ev x1 = v1 → ev x2 = v2 → (execOp ev o).run Tryd.prog w = .ok (.round l' fn tmps asg bod) w := fun ev hs h1 h2 => by
    simp [execOp, hop, resolve, invoke, go_sem, hs, h1, h2, hy]
  rw [Oper.semAt_some _ _ _ (by rw [hop]; intro c h; cases h), e a.eval hs h1 h2, Oper.uponIn_round]
  refine ⟨fun h => by simp [Fence.inRound, Fence.wide] at h, ?_⟩
  refine RoundIn.mono (F := Fence.wide) hR fun e w' hr => ?_
  obtain ⟨v, rfl, hk⟩ := h e w' hr
  exact hk
theorem run_load1 {w : World} {o : Oper} {s : Operand} (hop : o.op = .load 52 s) (ev : Operand → Value) (p : Nat) (hs : ev s = .pointer (some ⟨p, 0, none⟩)) (v : Value) (hc : w.cell? ⟨p, 0, none⟩ = some v) : (execOp ev o).run Tryd.prog w = .ok (.value v) w := by
  simp [execOp, hop, go_sem, hs, hc]
theorem run_load4 {w : World} {o : Oper} {s : Operand} (hop : o.op = .load 24 s) (ev : Operand → Value) (b q : Nat) (hs : ev s = .pointer (some ⟨b, q, none⟩)) (y : Nd) (v : Value) (hc : Four w b q y v) : (execOp ev o).run Tryd.prog w = .ok (.value (.agg #[.int .i64 y.k, .string y.t, .int .i64 y.n, v])) w := by
  obtain ⟨c0, c1, c2, c3⟩ := hc
  simp [execOp, hop, go_sem, hs, c0, c1, c2, c3]
theorem run_not {w : World} {o : Oper} {s : Operand} (hop : o.op = .unOp .not 4 s) (ev : Operand → Value) (r : Bool) (hs : ev s = .bool r) : (execOp ev o).run Tryd.prog w = .ok (.value (.bool (!r))) w := by
  simp [execOp, hop, go_sem, hs]
def opsY : Array Oper := #[{ dst := some 8, op := .load 52 (.tmp 2), type := 52, pos := "tree.go:79", after := #[], guard := none },
  { dst := some 9, op := .move (.tmp 3), type := 3, pos := "tree.go:79", after := #[], guard := none },
  { dst := some 10, op := .move (.tmp 4), type := 51, pos := "tree.go:79", after := #[], guard := none },
  { dst := some 11, op := .nilCheck (.tmp 10), type := 0, pos := "tree.go:79", after := #[{ on := 2, ground := .data }], guard := none },
  { dst := some 12, op := .load 24 (.tmp 11), type := 24, pos := "tree.go:79", after := #[{ on := 3, ground := .data }], guard := none },
  { dst := some 13, op := .call { callee := .value (.func 15), args := #[.tmp 12], argTypes := #[24] }, type := 24, pos := "tree.go:79", after := #[{ on := 4, ground := .data }], guard := none },
  { dst := some 14, op := .call { callee := .value (.tmp 8), args := #[.tmp 9, .tmp 13], argTypes := #[3, 24] }, type := 4, pos := "tree.go:79", after := #[{ on := 0, ground := .data }, { on := 1, ground := .data }, { on := 5, ground := .data }, { on := 5, ground := .chain }], guard := none },
  { dst := some 15, op := .unOp .not 4 (.tmp 14), type := 4, pos := "tree.go:79", after := #[{ on := 6, ground := .data }], guard := none }]
def frY (v0 v1 v2 v3 v4 v5 v6 v7 u8 u9 u10 u11 u12 u13 u14 u15 : Value) : Act := { tmps := #[v0, v1, v2, v3, v4, v5, v6, v7, u8, u9, u10, u11, u12, u13, u14, u15], defers := [] }
/-- what holds when these operations are done. -/
structure YF (W2 : World) (Pr : Bool → World → Prop) (y : Nd) (Y I P X : Value) (b0 b1 b2 b3 b4 b5 b6 b7 : Bool) (u8 u9 u10 u11 u12 u13 u14 u15 : Value) (a : Option Addr) (c : Nat) (r : Bool) (W : World) : Prop where
  h0 : b0 = true → u8 = Y
  h1 : b1 = true → u9 = I
  h2 : b2 = true → u10 = P
  h3 : b3 = true → u11 = P
  h4 : b4 = true → u12 = X
  h5 : b5 = true → u13 = (.agg #[.int .i64 y.k, .string y.t, .int .i64 y.n, .slice a y.ks.length c])
  h6 : b6 = true → u14 = .bool r ∧ Pr r W
  h7 : b7 = true → u15 = .bool (!r)
  w0 : b5 = false → W = W2
  w1 : b5 = true → b6 = false → Below W2.heap.size W2 W ∧ Sep W (fun b => W2.heap.size ≤ b ∧ b < W.heap.size) (.slice a y.ks.length c) y.ks
  o5 : b5 = true → b4 = true
  o6 : b6 = true → b0 = true ∧ b1 = true ∧ b5 = true
  o7 : b7 = true → b6 = true
theorem rdyY0' : ∀ b0 b1 b2 b3 b4 b5 b6 b7 : Bool, 0 ∈ Region.ready .any opsY #[b0, b1, b2, b3, b4, b5, b6, b7] → (!b0) = true := by decide +kernel
theorem rdyY0 (b0 b1 b2 b3 b4 b5 b6 b7 : Bool) (h : 0 ∈ Region.ready .any opsY #[b0, b1, b2, b3, b4, b5, b6, b7]) : b0 = false := by simpa [and_assoc] using rdyY0' b0 b1 b2 b3 b4 b5 b6 b7 h
theorem rdyY3' : ∀ b0 b1 b2 b3 b4 b5 b6 b7 : Bool, 3 ∈ Region.ready .any opsY #[b0, b1, b2, b3, b4, b5, b6, b7] → (!b3 && b2) = true := by decide +kernel
theorem rdyY3 (b0 b1 b2 b3 b4 b5 b6 b7 : Bool) (h : 3 ∈ Region.ready .any opsY #[b0, b1, b2, b3, b4, b5, b6, b7]) : b3 = false ∧ b2 = true := by simpa [and_assoc] using rdyY3' b0 b1 b2 b3 b4 b5 b6 b7 h
theorem rdyY4' : ∀ b0 b1 b2 b3 b4 b5 b6 b7 : Bool, 4 ∈ Region.ready .any opsY #[b0, b1, b2, b3, b4, b5, b6, b7] → (!b4 && b3) = true := by decide +kernel
theorem rdyY4 (b0 b1 b2 b3 b4 b5 b6 b7 : Bool) (h : 4 ∈ Region.ready .any opsY #[b0, b1, b2, b3, b4, b5, b6, b7]) : b4 = false ∧ b3 = true := by simpa [and_assoc] using rdyY4' b0 b1 b2 b3 b4 b5 b6 b7 h
theorem rdyY5' : ∀ b0 b1 b2 b3 b4 b5 b6 b7 : Bool, 5 ∈ Region.ready .any opsY #[b0, b1, b2, b3, b4, b5, b6, b7] → (!b5 && b4) = true := by decide +kernel
theorem rdyY5 (b0 b1 b2 b3 b4 b5 b6 b7 : Bool) (h : 5 ∈ Region.ready .any opsY #[b0, b1, b2, b3, b4, b5, b6, b7]) : b5 = false ∧ b4 = true := by simpa [and_assoc] using rdyY5' b0 b1 b2 b3 b4 b5 b6 b7 h
theorem rdyY6' : ∀ b0 b1 b2 b3 b4 b5 b6 b7 : Bool, 6 ∈ Region.ready .any opsY #[b0, b1, b2, b3, b4, b5, b6, b7] → (!b6 && b0 && b1 && b5) = true := by decide +kernel
theorem rdyY6 (b0 b1 b2 b3 b4 b5 b6 b7 : Bool) (h : 6 ∈ Region.ready .any opsY #[b0, b1, b2, b3, b4, b5, b6, b7]) : b6 = false ∧ b0 = true ∧ b1 = true ∧ b5 = true := by simpa [and_assoc] using rdyY6' b0 b1 b2 b3 b4 b5 b6 b7 h
theorem rdyY7' : ∀ b0 b1 b2 b3 b4 b5 b6 b7 : Bool, 7 ∈ Region.ready .any opsY #[b0, b1, b2, b3, b4, b5, b6, b7] → (!b7 && b6) = true := by decide +kernel
theorem rdyY7 (b0 b1 b2 b3 b4 b5 b6 b7 : Bool) (h : 7 ∈ Region.ready .any opsY #[b0, b1, b2, b3, b4, b5, b6, b7]) : b7 = false ∧ b6 = true := by simpa [and_assoc] using rdyY7' b0 b1 b2 b3 b4 b5 b6 b7 h
theorem rdyYN' : ∀ b0 b1 b2 b3 b4 b5 b6 b7 : Bool, Region.ready .any opsY #[b0, b1, b2, b3, b4, b5, b6, b7] = [] → (b0 && b1 && b2 && b3 && b4 && b5 && b6 && b7) = true := by decide +kernel
theorem rdyYN (b0 b1 b2 b3 b4 b5 b6 b7 : Bool) (h : Region.ready .any opsY #[b0, b1, b2, b3, b4, b5, b6, b7] = []) : b0 = true ∧ b1 = true ∧ b2 = true ∧ b3 = true ∧ b4 = true ∧ b5 = true ∧ b6 = true ∧ b7 = true := by simpa [and_assoc] using rdyYN' b0 b1 b2 b3 b4 b5 b6 b7 h

set_option maxRecDepth 100000 in
set_option maxHeartbeats 4000000 in
theorem tellY (y : Nd) (ak : Option Addr) (ck l l' k b o Yb : Nat) (v0 v1 v5 v6 v7 : Value) (W2 : World) (Pr : Bool → World → Prop) (i8 i9 i10 i11 i12 i13 i14 i15 : Value)
    (hY : ∀ W, Below W2.drew.heap.size W2.drew W → W.cell? ⟨Yb, 0, none⟩ = some (.func (.yield l) #[] #[])) (h4 : Four W2.drew b o y (.slice ak y.ks.length ck))
    (CC : Calls Tryd.prog 15 #[(.agg #[.int .i64 y.k, .string y.t, .int .i64 y.n, .slice ak y.ks.length ck])] W2.drew fun e w' => ∃ a c, e = .returned (.agg #[.int .i64 y.k, .string y.t, .int .i64 y.n, .slice a y.ks.length c]) ∧ Sep w' (fun b => W2.drew.heap.size ≤ b ∧ b < w'.heap.size) (.slice a y.ks.length c) y.ks ∧ Below W2.drew.heap.size W2.drew w')
    (hR : ∀ W a c, Below W2.drew.heap.size W2.drew W → Sep W (fun b => W2.drew.heap.size ≤ b ∧ b < W.heap.size) (.slice a y.ks.length c) y.ks → YieldAt Fence.wide 7 Tryd.prog l #[(.int .i64 (k : Nat)), (.agg #[.int .i64 y.k, .string y.t, .int .i64 y.n, .slice a y.ks.length c])] W fun e W' => ∃ r : Bool, e = .returned (.bool r) ∧ Pr r W')
    {Q : Exit → Act → World → Prop} (hQ : ∀ (u8 u9 u10 u11 u12 u13 u14 : Value) r W, Pr r W → Q .normal (frY v0 v1 (.pointer (some ⟨Yb, 0, none⟩)) (.int .i64 (k : Nat)) (.pointer (some ⟨b, o, none⟩)) v5 v6 v7 u8 u9 u10 u11 u12 u13 u14 (.bool (!r))) W) :
    (Code.region 4 opsY true).wpIn (Fence.wide.inRound l') 8 Tryd.prog Q (frY v0 v1 (.pointer (some ⟨Yb, 0, none⟩)) (.int .i64 (k : Nat)) (.pointer (some ⟨b, o, none⟩)) v5 v6 v7 i8 i9 i10 i11 i12 i13 i14 i15) W2 := by
  refine wpIn_region_any (by kernel_rfl) ?_
  change wpAnyIn _ _ _ _ _ _ _ _ _ W2.drew
  generalize W2.drew = W2 at *
  refine wpAnyIn_inv (fun listed A W => ∃ b0 b1 b2 b3 b4 b5 b6 b7 : Bool, ∃ u8 u9 u10 u11 u12 u13 u14 u15 a c r, listed = #[b0, b1, b2, b3, b4, b5, b6, b7] ∧ A = frY v0 v1 (.pointer (some ⟨Yb, 0, none⟩)) (.int .i64 (k : Nat)) (.pointer (some ⟨b, o, none⟩)) v5 v6 v7 u8 u9 u10 u11 u12 u13 u14 u15 ∧ YF W2 Pr y (.func (.yield l) #[] #[]) (.int .i64 (k : Nat)) (.pointer (some ⟨b, o, none⟩)) (.agg #[.int .i64 y.k, .string y.t, .int .i64 y.n, .slice ak y.ks.length ck]) b0 b1 b2 b3 b4 b5 b6 b7 u8 u9 u10 u11 u12 u13 u14 u15 a c r W) ?_ ?_ _ _ _ _ ?_ ?_
  · rintro _ _ W i ⟨b0, b1, b2, b3, b4, b5, b6, b7, u8, u9, u10, u11, u12, u13, u14, u15, a, c, r, rfl, rfl, h⟩ hi K hK
    have hlt : i < 8 := (mem_ready hi).1
    obtain rfl | rfl | rfl | rfl | rfl | rfl | rfl | rfl : i = 0 ∨ i = 1 ∨ i = 2 ∨ i = 3 ∨ i = 4 ∨ i = 5 ∨ i = 6 ∨ i = 7 := by omega
    · obtain rfl := rdyY0 _ _ _ _ _ _ _ _ hi
      have n6 : b6 = false := by
        cases h6 : b6 with
        | false => rfl
        | true => have := (h.o6 h6).1; cases this
      have hc : W.cell? ⟨Yb, 0, none⟩ = some (.func (.yield l) #[] #[]) := by
        cases h5 : b5 with
        | false => rw [h.w0 h5]; exact hY _ (Below.refl _ _)
        | true => exact hY _ (h.w1 h5 n6).1
      exact wpOpIn_step rfl (fun K' hK' => stepIn_val rfl (by intro c h; cases h) (.func (.yield l) #[] #[]) (run_load1 rfl _ Yb rfl _ hc) (hK' _ _ (hK _ _ ⟨true, b1, b2, b3, b4, b5, b6, b7, _, u9, u10, u11, u12, u13, u14, u15, a, c, r, rfl, rfl, ⟨fun _ => rfl, h.h1, h.h2, h.h3, h.h4, h.h5, h.h6, h.h7, h.w0, h.w1, h.o5, fun e => ⟨rfl, (h.o6 e).2⟩, h.o7⟩⟩)))
    · exact wpOpIn_step rfl (fun K' hK' => stepIn_val rfl (by intro c h; cases h) (.int .i64 (k : Nat)) (by rfl) (hK' _ _ (hK _ _ ⟨b0, true, b2, b3, b4, b5, b6, b7, u8, _, u10, u11, u12, u13, u14, u15, a, c, r, rfl, rfl, ⟨h.h0, fun _ => rfl, h.h2, h.h3, h.h4, h.h5, h.h6, h.h7, h.w0, h.w1, h.o5, fun e => ⟨(h.o6 e).1, rfl, (h.o6 e).2.2⟩, h.o7⟩⟩)))
    · exact wpOpIn_step rfl (fun K' hK' => stepIn_val rfl (by intro c h; cases h) (.pointer (some ⟨b, o, none⟩)) (by rfl) (hK' _ _ (hK _ _ ⟨b0, b1, true, b3, b4, b5, b6, b7, u8, u9, _, u11, u12, u13, u14, u15, a, c, r, rfl, rfl, ⟨h.h0, h.h1, fun _ => rfl, h.h3, h.h4, h.h5, h.h6, h.h7, h.w0, h.w1, h.o5, h.o6, h.o7⟩⟩)))
    · obtain ⟨rfl, rfl⟩ := rdyY3 _ _ _ _ _ _ _ _ hi
      obtain rfl := h.h2 rfl
      exact wpOpIn_step rfl (fun K' hK' => stepIn_val rfl (by intro c h; cases h) (.pointer (some ⟨b, o, none⟩)) (by rfl) (hK' _ _ (hK _ _ ⟨b0, b1, true, true, b4, b5, b6, b7, u8, u9, _, _, u12, u13, u14, u15, a, c, r, rfl, rfl, ⟨h.h0, h.h1, h.h2, fun _ => rfl, h.h4, h.h5, h.h6, h.h7, h.w0, h.w1, h.o5, h.o6, h.o7⟩⟩)))
    · obtain ⟨rfl, rfl⟩ := rdyY4 _ _ _ _ _ _ _ _ hi
      obtain rfl := h.h3 rfl
      have n5 : b5 = false := by
        cases h5 : b5 with
        | false => rfl
        | true => have := h.o5 h5; cases this
      obtain rfl := h.w0 n5
      exact wpOpIn_step rfl (fun K' hK' => stepIn_val rfl (by intro c h; cases h) (.agg #[.int .i64 y.k, .string y.t, .int .i64 y.n, .slice ak y.ks.length ck]) (run_load4 rfl _ b o rfl y _ h4) (hK' _ _ (hK _ _ ⟨b0, b1, b2, true, true, b5, b6, b7, u8, u9, u10, _, _, u13, u14, u15, a, c, r, rfl, rfl, ⟨h.h0, h.h1, h.h2, h.h3, fun _ => rfl, h.h5, h.h6, h.h7, h.w0, h.w1, fun _ => rfl, h.o6, h.o7⟩⟩)))
    · obtain ⟨rfl, rfl⟩ := rdyY5 _ _ _ _ _ _ _ _ hi
      obtain rfl := h.h4 rfl
      obtain rfl := h.w0 rfl
      have n6 : b6 = false := by
        cases h6 : b6 with
        | false => rfl
        | true => have := (h.o6 h6).2.2; cases this
      subst n6
      refine wpOpIn_step rfl (fun K' hK' => stepIn_call1 rfl 15 (.tmp 12) _ rfl (.agg #[.int .i64 y.k, .string y.t, .int .i64 y.n, .slice ak y.ks.length ck]) rfl (enters_of Tryd.func15 (by kernel_rfl) rfl) CC ?_)
      rintro e W' ⟨a1, c1, rfl, sp, bb⟩
      exact ⟨_, rfl, hK' _ _ (hK _ _ ⟨b0, b1, b2, b3, true, true, false, b7, u8, u9, u10, u11, _, _, u14, u15, a1, c1, r, rfl, rfl, ⟨h.h0, h.h1, h.h2, h.h3, h.h4, fun _ => rfl, fun e => (by cases e), h.h7, fun e => (by cases e), fun _ _ => ⟨bb, sp⟩, fun _ => rfl, fun e => (by cases e), h.o7⟩⟩)⟩
    · obtain ⟨rfl, rfl, rfl, rfl⟩ := rdyY6 _ _ _ _ _ _ _ _ hi
      obtain rfl := h.h0 rfl
      obtain rfl := h.h1 rfl
      obtain rfl := h.h5 rfl
      obtain ⟨bb, sp⟩ := h.w1 rfl rfl
      have n7 : b7 = false := by
        cases h7 : b7 with
        | false => rfl
        | true => have := h.o7 h7; cases this
      subst n7
      refine wpOpIn_step rfl (fun K' hK' => stepIn_yield rfl (.tmp 8) (.tmp 9) (.tmp 13) _ rfl l rfl (.int .i64 (k : Nat)) (.agg #[.int .i64 y.k, .string y.t, .int .i64 y.n, .slice a y.ks.length c]) rfl rfl (hR W a c bb sp) ?_)
      rintro e W' ⟨r1, rfl, hp⟩
      exact ⟨_, rfl, hK' _ _ (hK _ _ ⟨true, true, b2, b3, b4, true, true, false, _, _, u10, u11, u12, _, _, u15, a, c, r1, rfl, rfl, ⟨h.h0, h.h1, h.h2, h.h3, h.h4, h.h5, fun _ => ⟨rfl, hp⟩, fun e => (by cases e), fun e => (by cases e), fun _ e => (by cases e), h.o5, fun _ => ⟨rfl, rfl, rfl⟩, fun e => (by cases e)⟩⟩)⟩
    · obtain ⟨rfl, rfl⟩ := rdyY7 _ _ _ _ _ _ _ _ hi
      obtain ⟨rfl, hp⟩ := h.h6 rfl
      exact wpOpIn_step rfl (fun K' hK' => stepIn_val rfl (by intro c h; cases h) (.bool (!r)) (run_not rfl _ r rfl) (hK' _ _ (hK _ _ ⟨b0, b1, b2, b3, b4, b5, true, true, u8, u9, u10, u11, u12, u13, _, _, a, c, r, rfl, rfl, ⟨h.h0, h.h1, h.h2, h.h3, h.h4, h.h5, h.h6, fun _ => rfl, h.w0, h.w1, h.o5, h.o6, fun _ => rfl⟩⟩)))
  · rintro _ _ W ⟨b0, b1, b2, b3, b4, b5, b6, b7, u8, u9, u10, u11, u12, u13, u14, u15, a, c, r, rfl, rfl, h⟩ hr
    obtain ⟨rfl, rfl, rfl, rfl, rfl, rfl, rfl, rfl⟩ := rdyYN _ _ _ _ _ _ _ _ hr
    obtain rfl := h.h7 rfl
    exact hQ _ _ _ _ _ _ _ r W (h.h6 rfl).2
  · decide
  · exact ⟨false, false, false, false, false, false, false, false, i8, i9, i10, i11, i12, i13, i14, i15, none, 0, false, rfl, rfl, ⟨fun e => (by cases e), fun e => (by cases e), fun e => (by cases e), fun e => (by cases e), fun e => (by cases e), fun e => (by cases e), fun e => (by cases e), fun e => (by cases e), fun _ => rfl, fun e => (by cases e), fun e => (by cases e), fun e => (by cases e), fun e => (by cases e)⟩⟩
end Go.Proofs.YtggahoefbcnaiaaDoor
