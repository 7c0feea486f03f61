/- Own text. Package module: the reader, and what is read by a rule of layer 6. Package module: what is given up is caught. Package module: names that stand here, requests. Package module: what an item begins with; whether an import is of types alone. Package module: what may be declared, what may stand behind export default, what an item is read by. -/
import Derived.Test.YtfehmdfamndcaaaGreatDoorGm29
import Derived.Test.YtfehmdfamndcaaaGreatDoorGm30
import Derived.Test.YtfehmdfamndcaaaGreatDoorGm32
import Derived.Test.YtfehmdfamndcaaaGreatDoorGm24
import Derived.Test.YtfehmdfamndcaaaGreatDoorGm23
import Derived.Defers
import Derived.Recover
namespace Go.Proofs.YtfehmdfamndcaaaGreatDoor
open Go.RowKit
set_option linter.unusedVariables false
set_option linter.unusedSimpArgs false

/-- a reader of this package has nothing behind its cursor. -/
def mE : Ex := ⟨[], 111⟩
theorem exprM_ge (L : List Tok) (a : Nat) : Ge (a + 1) (exprM L a) := (mono_all L (fuelL L)).expr' a 0
theorem typeM_ge (L : List Tok) (a : Nat) : Ge (a + 1) (typeM L a) := (mono_all L (fuelL L)).type' a 0
theorem stmtM_ge (L : List Tok) (a : Nat) : Ge (a + 1) (stmtM L a) := (mono_all L (fuelL L)).stmt' a 0
theorem toM_ge (L : List Tok) (a : Nat) : Ge a (toM L a) := Ge.ite (fun _ => (typeM_ge L _).mono (by omega)) (fun _ => Ge.ok (Nat.le_refl _))
theorem endM_ge (L : List Tok) (n : Nd) (a : Nat) : Ge (a + 1) (endM L n a) := (want_ge L sSe a).bind (fun u b hb => Ge.ok hb)
/-- the tokens from here on, as they are handed to layer 6. -/
theorem tkv_rest {w : World} {P : Pl} {L : List Tok} {a : Nat} {o : Ex} {v : Value} (h : Rd w P L a o) (hs : Small L) (hv : restV P L a v) : TkV w v (L.drop a) := by
  obtain ⟨ad, rfl, had⟩ := hv
  have hle := h.le
  have hsm := h.small
  have hcp := h.cap
  have hl : (L.drop a).length = L.length - a := List.length_drop
  refine ⟨⟨ad, P.tc - a, P.bl, P.of + a * 4, by rw [hl], fun q => had (by omega), ⟨fun q => h.x.lt (by omega), fun i hi => ?_⟩, by omega⟩, by omega, fun x hx => hs x (List.mem_of_mem_drop hx)⟩
  have hi' : a + i < L.length := by omega
  have e : (L.drop a)[i] = L[a + i] := List.getElem_drop
  rw [e]
  have := h.x.c (a + i) hi'
  rw [show P.of + a * 4 + i * 4 = P.of + (a + i) * 4 by omega]
  exact this
set_option maxRecDepth 100000 in
set_option maxHeartbeats 4000000 in
theorem go_any {w : World} {P : Pl} {L : List Tok} {a : Nat} {o : Ex} (h : Rd w P L a o) (b : Nat) (hb : b ≤ L.length) :
    Calls Tryz.prog 111 #[.pointer (some ⟨P.R, 0, none⟩), .int .i64 (b : Int)] w fun e w' => e = .returned (.tuple #[]) ∧ Rd w' P L b o ∧ KeptR P.R w w' := by
  obtain ⟨⟨c0, c1⟩, f1⟩ := h.cells
  go_enter Tryz.func111, Tryz.ntmps111
  go_wp2
  first
    | go_end0
    | refine bodyPost_ret (results_none rfl _ _ _) rfl ?_
  exact ⟨rfl, h.go b hb, KeptR.set P.R w 1 _⟩
set_option maxRecDepth 100000 in
set_option maxHeartbeats 8000000 in
/-- read by a rule of layer 6: what that answers of the tokens from here on, so many places on. -/
theorem by_any {L : List Tok} (hs : Small L) {w : World} {P : Pl} {a : Nat} (h : Rd w P L a mE) {k : FuncId} (eg : ∀ args w, (callFunc k args).run Tryz.prog w = .ok (.enter k args) w) (r : Rs Nd)
    (hC : ∀ W v, TkV W v (L.drop a) → Calls Tryz.prog k #[v, .int .i64 0] W (AnsF W (faceR r))) (hg : Gd (L.drop a) 0 r) (hb : Bd (L.drop a) r) :
    Calls Tryz.prog 80 #[.pointer (some ⟨P.R, 0, none⟩), .func (.func k) #[] #[]] w (AnsN P L mE w (r.up a)) := by
  have hRw := h.lt
  have hle := h.le
  have hsm := h.small
  have hdl : (L.drop a).length = L.length - a := List.length_drop
  obtain ⟨h0, a0, z0, M0⟩ := begin_cell h
  have C1 := rest_any h0
  have HC : Hid (∀ W v, TkV W v (L.drop a) → Calls Tryz.prog k #[v, .int .i64 0] W (AnsF W (faceR r))) := hC
  clear hC
  go_enter Tryz.func80, Tryz.ntmps80
  go_wp2_with fail
  go_at_call 110
  refine C1.mono ?_
  rintro e W1 ⟨⟨v, rfl, hv⟩, b1⟩
  have r1 := h0.bel b1
  have T1 := tkv_rest r1 hs hv
  clear hv
  have C2 := HC.out _ _ T1
  clear HC T1 C1
  have k1 : KeptR P.R (w.alloc zN) W1 := .of b1
  have s1 := b1.size
  cases r with
  | bad p er =>
    have he : er ≠ 0 := fun e => hg.1 p (by rw [e])
    have hp : p ≤ L.length - a := by have : p ≤ (L.drop a).length := hb.1; omega
    have he2 : er = 60 ∨ er = 2 := by rcases hb.2 with e | e | e; exact .inl e; exact .inr e; exact absurd e he
    have hpw : IntKind.i64.wrap ((a : Int) + (p : Int)) = ((p + a : Nat) : Int) := by rw [IntKind.wrap_i64]; omega
    simp only [faceR, zeroNd] at C2
    go_wp2_with fail
    go_at_fn k
    refine C2.mono ?_
    rintro e W2 ⟨ad, c, rfl, l2, b2⟩
    have r2 := r1.bel b2
    simp only [Nd.k, Nd.t, Nd.n, Nd.ks, List.length_nil]
    have r3 := r2.bel ((Below.refl _ _).alloc (Nat.le_refl _) (Obj.cells #[Value.int IntKind.i64 0, Value.string mtT, Value.int IntKind.i64 0, Value.slice ad 0 c] 62))
    have k2 : KeptR P.R w (W2.alloc (Obj.cells #[Value.int IntKind.i64 0, Value.string mtT, Value.int IntKind.i64 0, Value.slice ad 0 c] 62)) := a0.trans ((k1.trans (.of b2)).alloc _)
    rcases he2 with rfl | rfl
    all_goals
      go_wp2_with fail
      go_at_call 56
      refine (place_any r3).mono ?_
      rintro e W3 ⟨rfl, rfl⟩
      go_wp2
      exact ⟨rfl, rfl, k2⟩
  | ok x b =>
    have hb2 : b ≤ L.length - a := by have : b ≤ (L.drop a).length := hb; omega
    have hpw : IntKind.i64.wrap ((a : Int) + (b : Int)) = ((b + a : Nat) : Int) := by rw [IntKind.wrap_i64]; omega
    simp only [faceR] at C2
    go_wp2_with fail
    go_at_fn k
    refine C2.mono ?_
    rintro e W2 ⟨ad, c, rfl, l2, b2⟩
    have r2 := r1.bel b2
    have hx : LAt (W2.alloc (Obj.cells #[Value.int IntKind.i64 x.k, Value.string x.t, Value.int IntKind.i64 x.n, Value.slice ad x.ks.length c] 62)) (fun b => W1.heap.size ≤ b) (Value.slice ad x.ks.length c) x.ks := l2.bel ((Below.refl _ _).alloc (Nat.le_refl _) _)
    obtain ⟨W3, hW3⟩ : ∃ W, W2.alloc (Obj.cells #[Value.int IntKind.i64 x.k, Value.string x.t, Value.int IntKind.i64 x.n, Value.slice ad x.ks.length c] 62) = W := ⟨_, rfl⟩
    have b3 : Below W2.heap.size W2 W3 := by rw [← hW3]; exact (Below.refl _ _).alloc (Nat.le_refl _) _
    have m3 : W3.heap[W2.heap.size]? = some (.cells #[Value.int IntKind.i64 x.k, Value.string x.t, Value.int IntKind.i64 x.n, Value.slice ad x.ks.length c] 62 (0, 0)) := by rw [← hW3]; exact hnew _ rfl
    rw [hW3] at hx
    have r3 := r2.bel b3
    have k3 : KeptR P.R (w.alloc zN) W3 := (k1.trans (.of b2)).trans (.of b3)
    have s2 := b2.size
    have s3 : W2.heap.size < W3.heap.size := (Array.getElem?_eq_some_iff.1 m3).1
    go_wp2_with fail
    go_at_call 56
    refine (place_any r3).mono ?_
    rintro e W3' ⟨rfl, rfl⟩
    go_wp2_with fail
    go_at_call 111
    refine (go_any r3 (b + a) (by omega)).mono ?_
    rintro e W4 ⟨rfl, r4, k4⟩
    have m4 := (k4.block W2.heap.size s3 (by have := r2.lt; omega)).trans m3
    obtain ⟨⟨_, _, _, _⟩, _, _, _, _⟩ := t4 m4
    have kk := k3.trans k4
    have m0 := M0.out _ kk
    obtain ⟨⟨_, _, _, _⟩, _, _, _, _⟩ := t4 m0
    go_wp2
    refine bodyPost_ret (res_n4 Tryz.results80 (t4_set _ _ _ _ m0) rfl) rfl ?_
    exact close_ok (x := x) h (a0.trans kk) ((hx.mono (T := fun b => w.heap.size + 1 ≤ b) (fun b hb => by simp at s1; omega)).keepR k4 (by omega)) (by omega) r4
end Go.Proofs.YtfehmdfamndcaaaGreatDoor
namespace Go.Proofs.YtfehmdfamndcaaaGreatDoor
open Go.RowKit
set_option linter.unusedVariables false
set_option linter.unusedSimpArgs false

set_option maxRecDepth 100000 in
set_option maxHeartbeats 8000000 in
theorem catch_idleM (p q r : Nat) (w : World) :
    CallsD Tryz.prog 54 #[.pointer (some ⟨p, 0, none⟩), .pointer (some ⟨q, 0, none⟩), .pointer (some ⟨r, 0, none⟩)] .returning w fun e u' w' => e = .returned (.tuple #[]) ∧ u' = .returning ∧ w' = w := by
  refine callsD_of_wpS Tryz.func54 rfl fun c₀ cs hu => ?_
  apply wpS_seq
  apply wpS_region
  simp [wpOpsS, go_sem, recoverD, hu, Tryz.ntmps54, Exit.thenS]
  refine wpS_of_wp ?_
  simp only [List.size_toArray, List.length_cons, List.length_nil, Nat.reduceAdd, Nat.reduceSub, Array.replicate_succ, Array.replicate_zero, List.push_toArray, List.append_toArray, List.nil_append, List.cons_append, List.setIfInBounds_toArray, List.set_cons_zero, List.set_cons_succ]
  go_wp2
  cases c₀
  simp_all [bodyPostS, results, Tryz.results54]
set_option maxRecDepth 100000 in
set_option maxHeartbeats 8000000 in
theorem catch_panickingM (p q r a : Nat) (er : Int) (n0 n1 n2 n3 q0 r0 : Value) (w : World) (mp : w.heap[p]? = some (.cells #[n0, n1, n2, n3] 62 (0, 0))) (mq : w.heap[q]? = some (.cells #[q0] 3 (0, 0))) (mr : w.heap[r]? = some (.cells #[r0] 32 (0, 0))) (hpq : p ≠ q) (hpr : p ≠ r) (hqr : q ≠ r) (older : List PanicEntry) :
    CallsD Tryz.prog 54 #[.pointer (some ⟨p, 0, none⟩), .pointer (some ⟨q, 0, none⟩), .pointer (some ⟨r, 0, none⟩)] (.panicking ({ v := faultV a er, recovered := false } :: older)) w fun e u' w' => e = .returned (.tuple #[]) ∧ u' = .panicking ({ v := faultV a er, recovered := true } :: older) ∧
      w'.heap[p]? = some (.cells #[Value.int IntKind.i64 0, Value.string ⟨#[]⟩, Value.int IntKind.i64 0, Value.slice none 0 0] 62 (0, 0)) ∧ w'.heap[q]? = some (.cells #[.int .i64 (a : Int)] 3 (0, 0)) ∧ w'.heap[r]? = some (.cells #[.int .i64 er] 32 (0, 0)) ∧ Kept3 p q r w w' := by
  refine callsD_of_wpS Tryz.func54 rfl fun c₀ cs hu => ?_
  apply wpS_seq
  apply wpS_region
  unfold faultV at *
  simp [wpOpsS, go_sem, recoverD, hu, Tryz.ntmps54, Exit.thenS]
  refine wpS_of_wp ?_
  simp only [List.size_toArray, List.length_cons, List.length_nil, Nat.reduceAdd, Nat.reduceSub, Array.replicate_succ, Array.replicate_zero, List.push_toArray, List.append_toArray, List.nil_append, List.cons_append, List.setIfInBounds_toArray, List.set_cons_zero, List.set_cons_succ]
  obtain ⟨⟨_, _, _, _⟩, _, _, _, _⟩ := t4 mp
  have cq : w.cell? ⟨q, 0, none⟩ = some q0 := by simp [World.cell?, mq]
  have fq : w.frozen? ⟨q, 0, none⟩ = false := by simp [World.frozen?, mq]
  have cr : w.cell? ⟨r, 0, none⟩ = some r0 := by simp [World.cell?, mr]
  have fr : w.frozen? ⟨r, 0, none⟩ = false := by simp [World.frozen?, mr]
  have lp : p < w.heap.size := (Array.getElem?_eq_some_iff.1 mp).1
  have lq : q < w.heap.size := (Array.getElem?_eq_some_iff.1 mq).1
  have lr : r < w.heap.size := (Array.getElem?_eq_some_iff.1 mr).1
  have hta : ∀ w : World, (Instr.typeAssert (Value.iface 122 (Value.agg #[Value.int IntKind.i64 (a : Int), Value.int IntKind.i64 er])) 20 122 false).run Tryz.prog w = .ok (Value.agg #[Value.int IntKind.i64 (a : Int), Value.int IntKind.i64 er]) w := fun w => by
    first
      | rfl
      | kernel_rfl
      | simp [Instr.typeAssert, go_sem]
  go_wp2
  go_region
  obtain ⟨W1, hW1⟩ : ∃ W, ((((w.setCell ⟨p, 0, none⟩ (Value.int IntKind.i64 0)).setCell ⟨p, 1, none⟩ (Value.string ⟨#[]⟩)).setCell ⟨p, 2, none⟩ (Value.int IntKind.i64 0)).setCell ⟨p, 3, none⟩ (Value.slice none 0 0)) = W := ⟨_, rfl⟩
  have p1 : W1.heap[p]? = some (.cells #[Value.int IntKind.i64 0, Value.string ⟨#[]⟩, Value.int IntKind.i64 0, Value.slice none 0 0] 62 (0, 0)) := by rw [← hW1]; exact t4_set _ _ _ _ mp
  have o1 : ∀ j, j ≠ p → W1.heap[j]? = w.heap[j]? := fun j hj => by rw [← hW1]; exact blk_set4 hj _ _ _ _
  have s1 : W1.heap.size = w.heap.size := by rw [← hW1]; simp [World.setCell]
  have e1 : W1.os = w.os ∧ W1.tape = w.tape ∧ W1.output = w.output := by rw [← hW1]; exact ⟨rfl, rfl, rfl⟩
  rw [hW1]
  obtain ⟨W2, hW2⟩ : ∃ W, W1.setCell ⟨q, 0, none⟩ (Value.int IntKind.i64 (a : Int)) = W := ⟨_, rfl⟩
  have q2 : W2.heap[q]? = some (.cells #[.int .i64 (a : Int)] 3 (0, 0)) := by rw [← hW2]; simp [World.setCell, Array.getElem?_modify, o1 q (fun e => hpq e.symm), mq]
  have o2 : ∀ j, j ≠ q → W2.heap[j]? = W1.heap[j]? := fun j hj => by rw [← hW2]; exact Below.heap_setCell _ _ _ _ hj
  have s2 : W2.heap.size = w.heap.size := by rw [← hW2]; simp [World.setCell, s1]
  have e2 : W2.os = w.os ∧ W2.tape = w.tape ∧ W2.output = w.output := by rw [← hW2]; exact e1
  rw [hW2]
  obtain ⟨W3, hW3⟩ : ∃ W, W2.setCell ⟨r, 0, none⟩ (Value.int IntKind.i64 er) = W := ⟨_, rfl⟩
  have r3 : W3.heap[r]? = some (.cells #[.int .i64 er] 32 (0, 0)) := by rw [← hW3]; simp [World.setCell, Array.getElem?_modify, o2 r (fun e => hqr e.symm), o1 r (fun e => hpr e.symm), mr]
  have o3 : ∀ j, j ≠ r → W3.heap[j]? = W2.heap[j]? := fun j hj => by rw [← hW3]; exact Below.heap_setCell _ _ _ _ hj
  have s3 : W3.heap.size = w.heap.size := by rw [← hW3]; simp [World.setCell, s2]
  have e3 : W3.os = w.os ∧ W3.tape = w.tape ∧ W3.output = w.output := by rw [← hW3]; exact e2
  rw [hW3]
  have oa : ∀ ob j, j < w.heap.size → (W3.alloc ob).drew.heap[j]? = W3.heap[j]? := fun ob j hj => Below.heap_alloc W3 ob j (by omega)
  refine ⟨rfl, _, rfl, .tuple #[], by simp [results, Tryz.results54], rfl, rfl, ?_, ?_, ?_, e3.1, e3.2.1, e3.2.2, ?_, ?_⟩
  · exact (oa _ p lp).trans ((o3 p hpr).trans ((o2 p hpq).trans p1))
  · exact (oa _ q lq).trans ((o3 q hqr).trans q2)
  · exact (oa _ r lr).trans r3
  · show w.heap.size ≤ (W3.alloc _).heap.size
    simp
    omega
  · intro k hk h1 h2 h3
    exact (oa _ k hk).trans ((o3 k h3).trans ((o2 k h2).trans (o1 k h1)))
end Go.Proofs.YtfehmdfamndcaaaGreatDoor
namespace Go.Proofs.YtfehmdfamndcaaaGreatDoor
open Go.RowKit
set_option linter.unusedVariables false
set_option linter.unusedSimpArgs false

theorem mt_list : (⟨#[]⟩ : ByteArray).toList = [] := ByteArray.toList_eq _
set_option maxRecDepth 100000 in
set_option maxHeartbeats 4000000 in
theorem takeName_any {w : World} {P : Pl} {L : List Tok} {a : Nat} {o : Ex} (h : Rd w P L a o) (s : ByteArray) :
    Calls Tryz.prog 105 #[.pointer (some ⟨P.R, 0, none⟩), .string s] w fun e w' => e = .returned (.bool (isNm L a s)) ∧ Rd w' P L (adv (isNm L a s) a) o ∧ KeptR P.R w w' := by
  have C1 := token_any h
  have C2 := isName_any (tokA L a) s
  have hR := h
  have C3 := fun W (r : Rd W P L a o) => passIf_any r (isNm L a s) isNm_lt
  have e0 : ((tokA L a).k == 1 && (tokA L a).t.toList == s.toList) = isNm L a s := rfl
  rw [e0] at C2
  generalize isNm L a s = q at *
  clear e0
  generalize tokA L a = x at *
  go_enter Tryz.func105, Tryz.ntmps105
  go_wp2_with (first
    | (go_at_call 58; refine C1.mono ?_; rintro e W1 ⟨rfl, b1⟩; have r1 := hR.bel b1)
    | (go_at_call 76; refine (C2 _).mono ?_; rintro e W2 ⟨rfl, b2⟩; have r2 := r1.bel b2)
    | (go_at_call 92; refine (C3 _ r2).mono ?_; rintro e W3 ⟨rfl, r3, b3⟩))
  go_ret
  exact ⟨rfl, r3, ((KeptR.of b1).trans (.of b2)).trans b3⟩
set_option maxRecDepth 100000 in
set_option maxHeartbeats 4000000 in
theorem from_any {w : World} {P : Pl} {L : List Tok} {a : Nat} (h : Rd w P L a mE) :
    Calls Tryz.prog 68 #[.pointer (some ⟨P.R, 0, none⟩)] w (AnsU P L mE w (nameM L nFrom a)) := by
  have C1 := takeName_any h nFrom
  unfold nameM
  cases hq : isNm L a nFrom with
  | false =>
    rw [hq] at C1
    rw [if_neg (by decide)]
    unfold AnsU
    unfold nFrom at C1
    go_enter Tryz.func68, Tryz.ntmps68
    go_wp2_with (first
      | (go_at_call 105; refine C1.mono ?_; rintro e W1 ⟨rfl, r1, b1⟩)
      | (go_at_call 91; refine (wrong_any r1).mono ?_; rintro e W2 ⟨rfl, b2⟩))
    exact ⟨rfl, rfl, b1.trans (.of b2)⟩
  | true =>
    rw [hq] at C1
    rw [if_pos rfl]
    unfold AnsU
    unfold nFrom at C1
    go_enter Tryz.func68, Tryz.ntmps68
    go_wp2_with (go_at_call 105; refine C1.mono ?_; rintro e W1 ⟨rfl, r1, b1⟩)
    first
      | (go_end0; exact ⟨rfl, r1, b1⟩)
      | (refine bodyPost_ret (results_none rfl _ _ _) rfl ?_; exact ⟨rfl, r1, b1⟩)
set_option maxRecDepth 100000 in
set_option maxHeartbeats 4000000 in
theorem request_any {w : World} {P : Pl} {L : List Tok} {a : Nat} (h : Rd w P L a mE) (hs : Small L) :
    Calls Tryz.prog 69 #[.pointer (some ⟨P.R, 0, none⟩)] w (AnsT P L mE w (requestM L a)) := by
  have C3 := token_any h
  have HN : Hid ((tokA L a).k = 4 → a < L.length) := fun q => kind_lt (by rw [q]; decide)
  have hR := h
  have ht := hs.at a
  have C2 := fun (hlt : a < L.length) {W : World} (r : Rd W P L a mE) => pass_any r hlt ht
  unfold requestM
  generalize tokA L a = x at *
  have hf := fld0 (.int .i64 x.k) (.string x.t) (.int .i64 x.n) (.int .i64 x.p)
  unfold Tok.v at C3
  by_cases hk : x.k = 4
  · have hlt := HN.out hk
    replace C2 := @C2 hlt
    clear HN
    rw [if_pos hk]
    rw [hk] at C3 hf
    unfold AnsT
    go_enter Tryz.func69, Tryz.ntmps69
    go_wp2_with (first
      | (go_at_call 58; refine C3.mono ?_; rintro e W3 ⟨rfl, b3⟩)
      | (go_at_call 59; refine (C2 (hR.bel b3)).mono ?_; rintro e W2 ⟨rfl, r2, b2⟩))
    go_ret
    exact ⟨rfl, r2, (KeptR.of b3).trans b2⟩
  · clear HN C2
    rw [if_neg hk]
    unfold AnsT
    go_enter Tryz.func69, Tryz.ntmps69
    go_wp2_with (first
      | (go_at_call 58; refine C3.mono ?_; rintro e W3 ⟨rfl, b3⟩)
      | (go_at_call 91; refine (wrong_any (hR.bel b3)).mono ?_; rintro e W2 ⟨rfl, b2⟩))
    exact ⟨rfl, rfl, (KeptR.of b3).trans (.of b2)⟩
set_option maxRecDepth 100000 in
set_option maxHeartbeats 4000000 in
theorem requested_any {w : World} {P : Pl} {L : List Tok} {a : Nat} (h : Rd w P L a mE) (hs : Small L) :
    Calls Tryz.prog 107 #[.pointer (some ⟨P.R, 0, none⟩)] w (AnsT P L mE w (requestedM L a)) := by
  have C3 := token_any h
  have hR := h
  have C2 := fun {W : World} (r : Rd W P L a mE) => request_any r hs
  unfold requestedM
  generalize requestM L a = rr at *
  generalize tokA L a = x at *
  have hf := fld1 (.int .i64 x.k) (.string x.t) (.int .i64 x.n) (.int .i64 x.p)
  unfold Tok.v at C3
  by_cases hk : x.t.toList = []
  · have hk2 : x.t.toList.isEmpty = true := by rw [hk]; rfl
    rw [if_pos hk]
    unfold AnsT
    clear hk C2
    go_enter Tryz.func107, Tryz.ntmps107
    go_wp2_with (first
      | (go_at_call 58; refine C3.mono ?_; rintro e W3 ⟨rfl, b3⟩)
      | (go_at_call 91; refine (wrong_any (hR.bel b3)).mono ?_; rintro e W2 ⟨rfl, b2⟩))
    exact ⟨rfl, rfl, (KeptR.of b3).trans (.of b2)⟩
  · have hk2 : x.t.toList.isEmpty = false := by
      cases hl : x.t.toList with
      | nil => exact absurd hl hk
      | cons c l => rfl
    rw [if_neg hk]
    clear hk
    go_enter Tryz.func107, Tryz.ntmps107
    go_wp2_with fail
    go_at_call 58
    refine C3.mono ?_
    rintro e W3 ⟨rfl, b3⟩
    go_wp2_with fail
    go_at_call 69
    refine (C2 (hR.bel b3)).mono ?_
    rintro e W2 A2
    cases rr with
    | bad p er =>
      obtain ⟨rfl, b2⟩ := A2
      exact ⟨rfl, rfl, (KeptR.of b3).trans b2⟩
    | ok t a1 =>
      obtain ⟨rfl, r2, b2⟩ := A2
      go_wp2
      go_ret
      exact ⟨rfl, r2, (KeptR.of b3).trans b2⟩
end Go.Proofs.YtfehmdfamndcaaaGreatDoor
namespace Go.Proofs.YtfehmdfamndcaaaGreatDoor
open Go.RowKit
set_option linter.unusedVariables false
set_option linter.unusedSimpArgs false

set_option maxRecDepth 100000 in
set_option maxHeartbeats 1000000 in
theorem opens_any {w : World} {P : Pl} {L : List Tok} {a : Nat} (h : Rd w P L a mE) (n s : ByteArray) :
    Calls Tryz.prog 45 #[.pointer (some ⟨P.R, 0, none⟩), .string n, .string s] w fun e w' => e = .returned (.bool (opensM L a n s)) ∧ Below w.heap.size w w' := by
  have C1 := token_any h
  have C2 : ∀ W, Calls Tryz.prog 76 #[(tokA L a).v, .string n] W fun e w' => e = .returned (.bool (isNm L a n)) ∧ Below W.heap.size W w' := fun W => isName_any (tokA L a) n W
  have C3 := fun {W : World} (b : Below w.heap.size w W) => ahead_any (h.bel b) 1 (by omega)
  have C4 := fun {W : World} (b : Below w.heap.size w W) => ahead_any (h.bel b) 2 (by omega)
  have C5 : ∀ W, Calls Tryz.prog 77 #[(tokA L (a + 2)).v, .string s] W fun e w' => e = .returned (.bool (isS L (a + 2) s)) ∧ Below W.heap.size W w' := fun W => isSign_any (tokA L (a + 2)) s W
  unfold opensM
  have en : isN L (a + 1) = ((tokA L (a + 1)).k == 1) := rfl
  rw [en]
  generalize isNm L a n = q1 at *
  generalize isS L (a + 2) s = q3 at *
  generalize tokA L a = x at *
  generalize tokA L (a + 1) = y at *
  generalize tokA L (a + 2) = z at *
  have hf := fld0 (.int .i64 y.k) (.string y.t) (.int .i64 y.n) (.int .i64 y.p)
  unfold Tok.v at C3
  cases q1 with
  | false =>
    go_enter Tryz.func45, Tryz.ntmps45
    go_wp2_with (first
      | (go_at_call 58; refine C1.mono ?_; rintro e W1 ⟨rfl, b1⟩)
      | (go_at_call 76; refine (C2 _).mono ?_; rintro e W2 ⟨rfl, b2⟩))
    go_ret
    exact ⟨by simp, b1.trans (b2.mono b1.size)⟩
  | true =>
    by_cases hk : y.k = 1
    · have hk2 : (y.k == 1) = true := by simp [hk]
      have e1 : (true && (y.k == 1) && q3) = q3 := by simp [hk]
      rw [e1]
      clear en e1 hk
      go_enter Tryz.func45, Tryz.ntmps45
      go_wp2_with fail
      go_at_call 58
      refine C1.mono ?_
      rintro e W1 ⟨rfl, b1⟩
      go_wp2_with fail
      go_at_call 76
      refine (C2 _).mono ?_
      rintro e W2 ⟨rfl, b2⟩
      have c2 := b1.trans (b2.mono b1.size)
      go_wp2_with fail
      go_at_call 78
      refine (C3 c2).mono ?_
      rintro e W3 ⟨rfl, b3⟩
      have c3 := c2.trans (b3.mono c2.size)
      go_wp2_with fail
      go_at_call 78
      refine (C4 c3).mono ?_
      rintro e W4 ⟨rfl, b4⟩
      have c4 := c3.trans (b4.mono c3.size)
      go_wp2_with fail
      go_at_call 77
      refine (C5 _).mono ?_
      rintro e W5 ⟨rfl, b5⟩
      have c5 := c4.trans (b5.mono c4.size)
      go_wp2
      go_ret
      exact ⟨rfl, c5⟩
    · have hk2 : (y.k == 1) = false := by simp [hk]
      have e1 : (true && (y.k == 1) && q3) = false := by simp [hk]
      rw [e1]
      clear en e1
      go_enter Tryz.func45, Tryz.ntmps45
      go_wp2_with (first
        | (go_at_call 58; refine C1.mono ?_; rintro e W1 ⟨rfl, b1⟩)
        | (go_at_call 76; refine (C2 _).mono ?_; rintro e W2 ⟨rfl, b2⟩; have c2 := b1.trans (b2.mono b1.size))
        | (go_at_call 78; refine (C3 c2).mono ?_; rintro e W3 ⟨rfl, b3⟩; have c3 := c2.trans (b3.mono c2.size)))
      go_ret
      exact ⟨rfl, c3⟩
set_option maxRecDepth 100000 in
set_option maxHeartbeats 1000000 in
theorem typesAlone_any {w : World} {P : Pl} {L : List Tok} {a : Nat} (h : Rd w P L a mE) :
    Calls Tryz.prog 66 #[.pointer (some ⟨P.R, 0, none⟩)] w fun e w' => e = .returned (.bool (typesAloneM L a)) ∧ Below w.heap.size w w' := by
  have C1 := token_any h
  have C2 : ∀ W, Calls Tryz.prog 76 #[(tokA L a).v, .string nType] W fun e w' => e = .returned (.bool (isNm L a nType)) ∧ Below W.heap.size W w' := fun W => isName_any (tokA L a) nType W
  have C3 := fun {W : World} (b : Below w.heap.size w W) => ahead_any (h.bel b) 1 (by omega)
  have C4 := fun {W : World} (b : Below w.heap.size w W) => ahead_any (h.bel b) 2 (by omega)
  have C5 : ∀ W, Calls Tryz.prog 76 #[(tokA L (a + 1)).v, .string nFrom] W fun e w' => e = .returned (.bool (isNm L (a + 1) nFrom)) ∧ Below W.heap.size W w' := fun W => isName_any (tokA L (a + 1)) nFrom W
  have C6 : ∀ W, Calls Tryz.prog 77 #[(tokA L (a + 1)).v, .string sCb] W fun e w' => e = .returned (.bool (isS L (a + 1) sCb)) ∧ Below W.heap.size W w' := fun W => isSign_any (tokA L (a + 1)) sCb W
  unfold typesAloneM
  have en : isN L (a + 1) = ((tokA L (a + 1)).k == 1) := rfl
  rw [en]
  clear en
  generalize isNm L a nType = q1 at *
  generalize isNm L (a + 1) nFrom = q2 at *
  generalize isS L (a + 1) sCb = q3 at *
  generalize tokA L a = x at *
  generalize tokA L (a + 1) = y at *
  generalize tokA L (a + 2) = z at *
  have hf := fld0 (.int .i64 z.k) (.string z.t) (.int .i64 z.n) (.int .i64 z.p)
  unfold Tok.v at C3 C4 C5 C6
  unfold nType at C2
  unfold nFrom at C5
  unfold sCb at C6
  have HT : Hid (∀ W : World, (W.alloc (Obj.cells #[Value.int IntKind.i64 y.k, Value.string y.t, Value.int IntKind.i64 y.n, Value.int IntKind.i64 y.p] 118)).heap[W.heap.size]? = some (.cells #[Value.int IntKind.i64 y.k, Value.string y.t, Value.int IntKind.i64 y.n, Value.int IntKind.i64 y.p] 118 (0, 0))) := fun W => heap_alloc_new W _
  cases q1 with
  | false =>
    rw [Bool.false_and]
    clear C3 C4 C5 C6
    go_enter Tryz.func66, Tryz.ntmps66
    go_wp2_with fail
    go_at_call 58
    refine C1.mono ?_
    rintro e W1 ⟨rfl, b1⟩
    go_wp2_with fail
    go_at_call 76
    refine (C2 _).mono ?_
    rintro e W2 ⟨rfl, b2⟩
    have c2 := b1.trans (b2.mono b1.size)
    go_wp2
    go_ret
    exact ⟨rfl, c2⟩
  | true =>
    rw [Bool.true_and]
    cases q2 with
    | true =>
      rw [if_pos rfl]
      clear C6
      go_enter Tryz.func66, Tryz.ntmps66
      go_wp2_with fail
      go_at_call 58
      refine C1.mono ?_
      rintro e W1 ⟨rfl, b1⟩
      go_wp2_with fail
      go_at_call 76
      refine (C2 _).mono ?_
      rintro e W2 ⟨rfl, b2⟩
      have c2 := b1.trans (b2.mono b1.size)
      go_wp2_with fail
      go_at_call 78
      refine (C3 c2).mono ?_
      rintro e W3 ⟨rfl, b3⟩
      have c3 := c2.trans (b3.mono c2.size)
      have mT := HT.out W3
      obtain ⟨⟨_, _, _, _⟩, _, _, _, _⟩ := t4 mT
      have bT : Below W3.heap.size W3 (W3.alloc (Obj.cells #[Value.int IntKind.i64 y.k, Value.string y.t, Value.int IntKind.i64 y.n, Value.int IntKind.i64 y.p] 118)) := (Below.refl _ _).alloc (Nat.le_refl _) _
      have c4 := c3.trans (bT.mono c3.size)
      go_wp2_with fail
      go_at_call 76
      refine (C5 _).mono ?_
      rintro e W5 ⟨rfl, b5⟩
      have c5 := c4.trans (b5.mono c4.size)
      have m5 := (b5.block W3.heap.size (by simp)).trans mT
      obtain ⟨⟨_, _, _, _⟩, _, _, _, _⟩ := t4 m5
      go_wp2_with fail
      go_at_call 78
      refine (C4 c5).mono ?_
      rintro e W6 ⟨rfl, b6⟩
      have c6 := c5.trans (b6.mono c5.size)
      go_wp2
      go_ret
      exact ⟨by simp [bne], c6⟩
    | false =>
      rw [if_neg (by decide)]
      by_cases hk : y.k = 1
      · have hk2 : (y.k == 1) = true := by simp [hk]
        rw [hk2, Bool.true_or]
        clear hk C4 C6
        go_enter Tryz.func66, Tryz.ntmps66
        go_wp2_with fail
        go_at_call 58
        refine C1.mono ?_
        rintro e W1 ⟨rfl, b1⟩
        go_wp2_with fail
        go_at_call 76
        refine (C2 _).mono ?_
        rintro e W2 ⟨rfl, b2⟩
        have c2 := b1.trans (b2.mono b1.size)
        go_wp2_with fail
        go_at_call 78
        refine (C3 c2).mono ?_
        rintro e W3 ⟨rfl, b3⟩
        have c3 := c2.trans (b3.mono c2.size)
        have mT := HT.out W3
        obtain ⟨⟨_, _, _, _⟩, _, _, _, _⟩ := t4 mT
        have bT : Below W3.heap.size W3 (W3.alloc (Obj.cells #[Value.int IntKind.i64 y.k, Value.string y.t, Value.int IntKind.i64 y.n, Value.int IntKind.i64 y.p] 118)) := (Below.refl _ _).alloc (Nat.le_refl _) _
        have c4 := c3.trans (bT.mono c3.size)
        go_wp2_with fail
        go_at_call 76
        refine (C5 _).mono ?_
        rintro e W5 ⟨rfl, b5⟩
        have c5 := c4.trans (b5.mono c4.size)
        have m5 := (b5.block W3.heap.size (by simp)).trans mT
        obtain ⟨⟨_, _, _, _⟩, _, _, _, _⟩ := t4 m5
        go_wp2
        go_ret
        exact ⟨rfl, c5⟩
      · have hk2 : (y.k == 1) = false := by simp [hk]
        rw [hk2, Bool.false_or]
        clear hk C4
        go_enter Tryz.func66, Tryz.ntmps66
        go_wp2_with fail
        go_at_call 58
        refine C1.mono ?_
        rintro e W1 ⟨rfl, b1⟩
        go_wp2_with fail
        go_at_call 76
        refine (C2 _).mono ?_
        rintro e W2 ⟨rfl, b2⟩
        have c2 := b1.trans (b2.mono b1.size)
        go_wp2_with fail
        go_at_call 78
        refine (C3 c2).mono ?_
        rintro e W3 ⟨rfl, b3⟩
        have c3 := c2.trans (b3.mono c2.size)
        have mT := HT.out W3
        obtain ⟨⟨_, _, _, _⟩, _, _, _, _⟩ := t4 mT
        have bT : Below W3.heap.size W3 (W3.alloc (Obj.cells #[Value.int IntKind.i64 y.k, Value.string y.t, Value.int IntKind.i64 y.n, Value.int IntKind.i64 y.p] 118)) := (Below.refl _ _).alloc (Nat.le_refl _) _
        have c4 := c3.trans (bT.mono c3.size)
        go_wp2_with fail
        go_at_call 76
        refine (C5 _).mono ?_
        rintro e W5 ⟨rfl, b5⟩
        have c5 := c4.trans (b5.mono c4.size)
        have m5 := (b5.block W3.heap.size (by simp)).trans mT
        obtain ⟨⟨_, _, _, _⟩, _, _, _, _⟩ := t4 m5
        go_wp2_with fail
        go_at_call 77
        refine (C6 _).mono ?_
        rintro e W6 ⟨rfl, b6⟩
        have c6 := c5.trans (b6.mono c5.size)
        go_wp2
        go_ret
        exact ⟨rfl, c6⟩
end Go.Proofs.YtfehmdfamndcaaaGreatDoor
namespace Go.Proofs.YtfehmdfamndcaaaGreatDoor
open Go.RowKit
set_option linter.unusedVariables false
set_option linter.unusedSimpArgs false

/-- a method of the reader, bound. -/
abbrev bound (P : Pl) (k : FuncId) : Value := .func (.func k) #[.pointer (some ⟨P.R, 0, none⟩)] #[]
def dfK (L : List Tok) (a : Nat) : FuncId := if isWd L a wFunc = true then 47 else if isWd L a wClass = true then 42 else 106
set_option maxRecDepth 100000 in
set_option maxHeartbeats 1000000 in
theorem defaulted_any {w : World} {P : Pl} {L : List Tok} {a : Nat} (h : Rd w P L a mE) :
    Calls Tryz.prog 72 #[.pointer (some ⟨P.R, 0, none⟩)] w fun e w' => e = .returned (bound P (dfK L a)) ∧ Below w.heap.size w w' := by
  have C1 := standsWord_any h wFunc
  have C2 := fun {W : World} (b : Below w.heap.size w W) => standsWord_any (h.bel b) wClass
  unfold dfK
  unfold wFunc at C1
  unfold wClass at C2
  cases q1 : isWd L a wFunc with
  | true =>
    unfold wFunc at q1
    rw [q1] at C1
    rw [if_pos rfl]
    go_enter Tryz.func72, Tryz.ntmps72
    go_wp2_with (go_at_call 41; refine C1.mono ?_; rintro e W1 ⟨rfl, b1⟩)
    go_ret
    exact ⟨rfl, b1⟩
  | false =>
    unfold wFunc at q1
    rw [q1] at C1
    rw [if_neg (by decide)]
    cases q2 : isWd L a wClass with
    | true =>
      unfold wClass at q2
      rw [if_pos rfl]
      go_enter Tryz.func72, Tryz.ntmps72
      go_wp2_with fail
      go_at_call 41
      refine C1.mono ?_
      rintro e W1 ⟨rfl, b1⟩
      have C3 := C2 b1
      rw [q2] at C3
      go_wp2_with fail
      go_at_call 41
      refine C3.mono ?_
      rintro e W2 ⟨rfl, b2⟩
      go_wp2
      go_ret
      exact ⟨rfl, b1.trans (b2.mono b1.size)⟩
    | false =>
      unfold wClass at q2
      rw [if_neg (by decide)]
      go_enter Tryz.func72, Tryz.ntmps72
      go_wp2_with fail
      go_at_call 41
      refine C1.mono ?_
      rintro e W1 ⟨rfl, b1⟩
      have C3 := C2 b1
      rw [q2] at C3
      go_wp2_with fail
      go_at_call 41
      refine C3.mono ?_
      rintro e W2 ⟨rfl, b2⟩
      go_wp2
      go_ret
      exact ⟨rfl, b1.trans (b2.mono b1.size)⟩
end Go.Proofs.YtfehmdfamndcaaaGreatDoor
