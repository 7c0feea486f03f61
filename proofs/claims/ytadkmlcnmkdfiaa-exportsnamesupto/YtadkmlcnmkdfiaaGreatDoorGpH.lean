/- Own text. Lists of texts that are compared. What the statements of this stage begin with: the lists. What the statements of this stage begin with. What the statements of this stage begin with: the walk. -/
import Derived.Test.YtadkmlcnmkdfiaaGreatDoorGpF
import Derived.Test.YtadkmlcnmkdfiaaGreatDoorGpG
import Derived.Test.YtadkmlcnmkdfiaaGreatDoorGpE
namespace Go.Proofs.YtadkmlcnmkdfiaaGreatDoor
open Go.RowKit Xp
set_option linter.unusedVariables false
set_option linter.unusedSimpArgs false

/-- texts in a list, below block B. -/
structure TA (w : World) (B : Nat) (v : Value) (l : List ByteArray) : Prop where
  f : ∃ a c, v = .slice a l.length c
  c : 0 < l.length → ∃ g o c, v = .slice (some ⟨g, o, none⟩) l.length c ∧ g < B ∧ ∀ i (h : i < l.length), w.cell? ⟨g, o + i, none⟩ = some (.string l[i])
theorem TA.of {w : World} {base : Nat} {v : Value} {l : List ByteArray} (h : TS w base v l) : TA w w.heap.size v l :=
  ⟨TS.form h, fun h0 => by
    obtain ⟨g, c, rfl, hb, _⟩ := row_someI h h0
    refine ⟨g, 0, c, rfl, (World.ownsRow.lt h g rfl).2, fun i hi => ?_⟩
    have ci := World.ownsRow.cellAt h i (by omega)
    rw [List.getElem?_map, List.getElem?_eq_getElem hi] at ci
    rw [Nat.zero_add]
    exact ci⟩
theorem TA.bel {w w' : World} {B : Nat} {v : Value} {l : List ByteArray} (h : TA w B v l) (b : Below B w w') : TA w' B v l :=
  ⟨h.f, fun h0 => by
    obtain ⟨g, o, c, e, hb, hc⟩ := h.c h0
    exact ⟨g, o, c, e, hb, fun i hi => (World.cell?_of_block (a := ⟨g, o + i, none⟩) (b.block g hb)).trans (hc i hi)⟩⟩
theorem TA.mono {w : World} {B B' : Nat} {v : Value} {l : List ByteArray} (h : TA w B v l) (b : B ≤ B') : TA w B' v l :=
  ⟨h.f, fun h0 => by
    obtain ⟨g, o, c, e, hb, hc⟩ := h.c h0
    exact ⟨g, o, c, e, by omega, hc⟩⟩
set_option maxRecDepth 100000 in
set_option maxHeartbeats 8000000 in
theorem texts_any {W : World} {va vb : Value} {la lb : List ByteArray} (ha : TA W W.heap.size va la) (hb : TA W W.heap.size vb lb) (hl : la.length ≤ 4398046511104) (hl2 : lb.length ≤ 4398046511104) : Calls Tryz.prog 20 #[va, vb] W fun e w' => e = .returned (.bool (decide (la = lb))) ∧ Below W.heap.size W w' := by
  obtain ⟨aa, ac, rfl⟩ := ha.f
  obtain ⟨ba, bc, rfl⟩ := hb.f
  by_cases he : la.length = lb.length
  rotate_left
  · have hne : (((la.length : Nat) : Int) == ((lb.length : Nat) : Int)) = false := int_eqb (by omega)
    have HR : Hid (decide (la = lb) = false) := by show _ = _; rw [decide_eq_false]; exact fun e => he (by rw [e])
    clear ha hb he
    go_enter Tryz.func20, Tryz.ntmps20
    go_wp2
    go_ret
    exact ⟨by rw [HR.out]; rfl, Below.refl _ _⟩
  · have HEQ : Hid (la.length = lb.length) := he
    rw [← he]
    have HA : Hid _ := ha
    have HBb : Hid _ := hb
    clear ha hb he
    go_enter Tryz.func20, Tryz.ntmps20
    go_wp2
    go_loopw [5] (fun v5 wr => ∃ k : Nat, v5 = .int .i64 (k : Nat) ∧ k ≤ la.length ∧ Below W.heap.size W wr ∧ Hid (la.take k = lb.take k)) (fun v5 _ => la.length - (intOf v5).toNat)
    case atStart => exact ⟨0, rfl, by omega, Below.refl _ _, by simp [Hid]⟩
    case round =>
      obtain ⟨k, rfl, hk, hB, HT⟩ := hrel
      by_cases hlt : k < la.length
      · obtain ⟨g, o, c, e1, _, hc⟩ := (HA.out.bel hB).c (by omega)
        have hlb : k < lb.length := by have := HEQ.out; omega
        obtain ⟨g2, o2, c2, e2, _, hc2⟩ := (HBb.out.bel hB).c (by omega)
        simp only [Value.slice.injEq] at e1 e2
        obtain ⟨rfl, _, rfl⟩ := e1
        obtain ⟨rfl, _, rfl⟩ := e2
        have d1 := hc k hlt
        have d2 := hc2 k hlb
        have hltI : ((k : Nat) : Int) < ((la.length : Nat) : Int) := by omega
        have HN : Hid (la[k] = lb[k]'hlb → la.take (k + 1) = lb.take (k + 1)) := fun e => by rw [List.take_succ_eq_append_getElem hlt, List.take_succ_eq_append_getElem hlb, HT.out, e]
        have HF : Hid (la[k] ≠ lb[k]'hlb → decide (la = lb) = false) := fun e => by
          rw [decide_eq_false]
          intro e2
          subst e2
          exact e rfl
        clear hc hc2 HT
        generalize la[k] = x at *
        generalize lb[k] = y at *
        by_cases hxy : x = y
        · subst hxy
          have hxx : (x.toList == x.toList) = true := by simp
          have HN' : Hid _ := HN.out rfl
          clear HF
          go_wp2_with fail
          go_region
          go_wp2
          go_roundw
          case rel => exact ⟨k + 1, by simp, by omega, hB.drew, HN'.out⟩
          case measure => simp [intOf]; omega
        · have hxx : (x.toList == y.toList) = false := by rw [← beq_toListBytes, ba_eq]; exact decide_eq_false hxy
          have HF' : Hid _ := HF.out hxy
          clear HN hxy
          go_wp2_with fail
          go_region
          go_wp2
          go_ret
          exact ⟨by rw [HF'.out]; rfl, hB.drew⟩
      · obtain rfl : k = la.length := by omega
        have hge : ¬ ((la.length : Nat) : Int) < ((la.length : Nat) : Int) := by omega
        have HR : Hid (decide (la = lb) = true) := by
          show _ = _
          have := HT.out
          rw [List.take_length, HEQ.out, List.take_length] at this
          exact decide_eq_true this
        clear HT
        go_wp2
        go_ret
        exact ⟨by rw [HR.out]; rfl, hB⟩
end Go.Proofs.YtadkmlcnmkdfiaaGreatDoor
namespace Go.Proofs.YtadkmlcnmkdfiaaGreatDoor
open Go.RowKit Xp
def L4 : List Es := [oneE ⟨#[]⟩ [1, 2], oneE ⟨#[]⟩ [3], oneE ⟨#[121]⟩ [3], oneE ⟨#[120]⟩ []]
def L2 : List Es := [oneE ⟨#[]⟩ [1], oneE ⟨#[]⟩ [0]]
def L3 : List Es := [oneE ⟨#[]⟩ [1, 2], oneE ⟨#[120]⟩ [], oneE ⟨#[120]⟩ []]
theorem l4x : (rsv L4 (0, ⟨#[120]⟩)).k = 1 ∧ (rsv L4 (0, ⟨#[120]⟩)).mod = 3 ∧ (rsv L4 (0, ⟨#[120]⟩)).name = ⟨#[120]⟩ ∧ (rsv L4 (0, ⟨#[120]⟩)).ty = false := by decide +kernel
theorem l4z : (rsv L4 (0, ⟨#[122]⟩)).k = 0 := by decide +kernel
theorem l2x : (rsv L2 (0, ⟨#[120]⟩)).k = 4 := by decide +kernel
theorem l3x : (rsv L3 (0, ⟨#[120]⟩)).k = 3 := by decide +kernel
theorem l4g : givL L4 (starL L4 0) = [⟨#[121]⟩, ⟨#[120]⟩] := by decide +kernel
theorem l4s : srt [⟨#[121]⟩, ⟨#[120]⟩] = [[120], [121]] := by
  unfold srt bsL
  simp [List.mergeSort, List.MergeSort.Internal.splitInTwo, List.merge]
  decide
theorem l4c : candL L4 0 = [⟨#[120]⟩, ⟨#[121]⟩] := by unfold candL; rw [l4g, l4s]; decide +kernel
theorem l4n : namL L4 0 = [⟨#[120]⟩, ⟨#[121]⟩] := by unfold namL; rw [l4c]; decide +kernel
end Go.Proofs.YtadkmlcnmkdfiaaGreatDoor
namespace Go.Proofs.YtadkmlcnmkdfiaaGreatDoor
open Go.RowKit Xp
set_option linter.unusedVariables false
set_option linter.unusedSimpArgs false

theorem rowAt_block {w : World} {g B c k : Nat} {X : List (List Value)} {t : TypeId} {fr : Nat × Nat} (hk : ∀ x ∈ X, x.length = k) (hb : w.heap[g]? = some (.cells X.flatten.toArray t fr)) (hg : g < B) (hc : X.length ≤ c) : RowAt w B (.slice (some ⟨g, 0, none⟩) X.length c) k X := by
  refine ⟨⟨_, _, rfl⟩, fun _ => ⟨g, 0, c, rfl, hg, fun i hi j u hu => ?_⟩, fun ad n c2 e => by cases e; exact hc⟩
  have hj : j < k := by have := (List.getElem?_eq_some_iff.1 hu).1; rw [hk _ (List.getElem_mem hi)] at this; exact this
  have hlen : ∀ m : List (List Value), (∀ x ∈ m, x.length = k) → m.flatten.length = m.length * k := fun m => by
    induction m with
    | nil => intro _; simp
    | cons a m ih => intro h; rw [List.flatten_cons, List.length_append, ih fun x hx => h x (by simp [hx]), h a (by simp), List.length_cons, Nat.add_one_mul]; omega
  have e : X = X.take i ++ X[i] :: X.drop (i + 1) := by simp
  have l1 : (X.take i).length = i := by simp; omega
  have e2 : X.flatten = (X.take i).flatten ++ (X[i] ++ (X.drop (i + 1)).flatten) := (congrArg List.flatten e).trans (by rw [List.flatten_append, List.flatten_cons])
  have hf : X.flatten[i * k + j]? = some u := by
    rw [e2, List.getElem?_append_right (by rw [hlen _ fun x hx => hk x (List.mem_of_mem_take hx), l1]; omega), hlen _ fun x hx => hk x (List.mem_of_mem_take hx), l1, show i * k + j - i * k = j by omega, List.getElem?_append_left (by rw [hk _ (List.getElem_mem hi)]; exact hj)]
    exact hu
  simp [World.cell?, hb, hf]
theorem enat_nil (w : World) (B : Nat) : EnAt w B (.slice none 0 0) [] := ⟨⟨none, 0, rfl⟩, fun h => by simp at h, fun ad n c e => by cases e; omega⟩
/-- one module's own exports and stars. -/
structure E2 (w : World) (v1 v3 : Value) (e : Es) : Prop where
  a : EnAt w w.heap.size v1 e.own
  b : EnAt w w.heap.size v3 e.st
  c : e.imp = []
  d : e.oth = []
theorem E2.go {w w' : World} {v1 v3 : Value} {e : Es} (h : E2 w v1 v3 e) (b : Below w.heap.size w w') : E2 w' v1 v3 e := ⟨(h.a.bel b).mono b.size, (h.b.bel b).mono b.size, h.c, h.d⟩
theorem bel_al {w w' : World} {o : Obj} (b : Below (w.alloc o).heap.size (w.alloc o) w') : Below w.heap.size w w' := (bel_a w o).trans (b.mono (by simp))
theorem one_lit (X : World) (own : ByteArray) (l : List Int) {q c : Nat} {t : TypeId} {fr : Nat × Nat} (hl : l.length ≤ 1024) (hq : X.heap[q]? = some (.cells (l.map (Value.int .i64)).toArray t fr)) :
    Calls Tryz.prog 22 #[.string own, .slice (some ⟨q, 0, none⟩) l.length c] X fun e w' => ∃ v1 v3, e = .returned (.agg #[.slice none 0 0, v1, .slice none 0 0, v3]) ∧ E2 w' v1 v3 (oneE own l) ∧ Below X.heap.size X w' := by
  refine (one_any X own l _ hl (.inr ⟨q, c, rfl, (Array.getElem?_eq_some_iff.1 hq).1, fun i hi => by simp [World.cell?, hq, hi]⟩)).mono ?_
  rintro e w' ⟨v1, v3, rfl, h1, h3, b⟩
  exact ⟨v1, v3, rfl, ⟨h1, h3, rfl, rfl⟩, b⟩
theorem one_nil (X : World) (own : ByteArray) :
    Calls Tryz.prog 22 #[.string own, .slice none 0 0] X fun e w' => ∃ v1 v3, e = .returned (.agg #[.slice none 0 0, v1, .slice none 0 0, v3]) ∧ E2 w' v1 v3 (oneE own []) ∧ Below X.heap.size X w' := by
  refine (one_any X own [] _ (by simp) (.inl ⟨rfl, rfl⟩)).mono ?_
  rintro e w' ⟨v1, v3, rfl, h1, h3, b⟩
  exact ⟨v1, v3, rfl, ⟨h1, h3, rfl, rfl⟩, b⟩
theorem ms_lit {w : World} {g : Nat} {V : List (Value × Value)} {L : List Es} {t : TypeId} {fr : Nat × Nat} (hl : V.length = L.length) (hb : w.heap[g]? = some (.cells (V.map fun p => [.slice none 0 0, p.1, .slice none 0 0, p.2]).flatten.toArray t fr)) (he : ∀ i (h : i < V.length) (h' : i < L.length), E2 w V[i].1 V[i].2 L[i]) : MsAt w w.heap.size (.slice (some ⟨g, 0, none⟩) L.length L.length) L := by
  have hx : (V.map fun p => [Value.slice none 0 0, p.1, .slice none 0 0, p.2]).length = L.length := by simp [hl]
  refine ⟨V.map fun p => [.slice none 0 0, p.1, .slice none 0 0, p.2], hx, ?_, fun i hi hi' => ?_⟩
  · have := rowAt_block (w := w) (g := g) (B := w.heap.size) (c := L.length) (k := 4) (X := V.map fun p => [Value.slice none 0 0, p.1, .slice none 0 0, p.2]) (by rintro x hx'; obtain ⟨p, _, rfl⟩ := List.mem_map.1 hx'; rfl) hb (Array.getElem?_eq_some_iff.1 hb).1 (by omega)
    rw [hx] at this
    exact this
  · have hv : i < V.length := by omega
    have h := he i hv hi
    refine ⟨.slice none 0 0, V[i].1, .slice none 0 0, V[i].2, by simp, ?_, h.a, ?_, h.b⟩
    · rw [h.c]; exact enat_nil _ _
    · rw [h.d]; exact enat_nil _ _
theorem fd_eql (W : World) (a b : Fnd) : (binOp .eql 41 (.agg #[.int .i64 a.k, .int .i64 a.mod, .string a.name, .bool a.ty]) (.agg #[.int .i64 b.k, .int .i64 b.mod, .string b.name, .bool b.ty])).run Tryz.prog W = .ok (.bool (a.k == b.k && a.mod == b.mod && a.name == b.name && a.ty == b.ty)) W := by
  have a3 := Tryz.isAgg3
  have a9 := Tryz.isAgg9
  have a4 := Tryz.isAgg4
  rw [run_eql_struct, run_equalIn_struct W 9999 _ _ _ fd_struct fd_held, fd_fields]
  have u3 := Tryz.underlying3
  have u9 := Tryz.underlying9
  have u4 := Tryz.underlying4
  rw [beq_toListBytes]
  cases e1 : (a.k == b.k) <;> cases e2 : (a.mod == b.mod) <;> cases e3 : (a.name.toList == b.name.toList) <;> cases e4 : (a.ty == b.ty) <;> simp [Op.eqFields, go_sem, a3, a9, a4, u3, u9, u4, e1, e2, e3, e4]
end Go.Proofs.YtadkmlcnmkdfiaaGreatDoor
namespace Go.Proofs.YtadkmlcnmkdfiaaGreatDoor
open Go.RowKit Xp
set_option linter.unusedVariables false
set_option linter.unusedSimpArgs false

theorem en_struct : Tryz.prog.underlying 49 = some (.struct (Tryz.prog.fieldsOf 49)) := by kernel_rfl
theorem en_held : Tryz.prog.stoodInHeld 49 = false := by kernel_rfl
theorem en_neq (W : World) : (binOp .neq 49 (.agg #[.string ⟨#[99]⟩, .string ⟨#[97]⟩, .int .i64 7, .bool false, .int .i64 1]) (.agg #[.string ⟨#[99]⟩, .string ⟨#[97]⟩, .int .i64 7, .bool false, .int .i64 1])).run Tryz.prog W = .ok (.bool false) W := by
  have a3 := Tryz.isAgg3
  have a9 := Tryz.isAgg9
  have a4 := Tryz.isAgg4
  have hf : (Tryz.prog.fieldsOf 49).toList = [{ name := "Here", type := 9, offset := 0, embedded := false, tag := "", pkgPath := "", byteOffset := 0 }, { name := "There", type := 9, offset := 1, embedded := false, tag := "", pkgPath := "", byteOffset := 16 }, { name := "Mod", type := 3, offset := 2, embedded := false, tag := "", pkgPath := "", byteOffset := 32 }, { name := "Type", type := 4, offset := 3, embedded := false, tag := "", pkgPath := "", byteOffset := 40 }, { name := "Item", type := 3, offset := 4, embedded := false, tag := "", pkgPath := "", byteOffset := 48 }] := by kernel_rfl
  rw [run_neq_struct, run_equalIn_struct W 9999 _ _ _ en_struct en_held, hf]
  have u3 := Tryz.underlying3
  have u9 := Tryz.underlying9
  have u4 := Tryz.underlying4
  simp [Op.eqFields, go_sem, a3, a9, a4, u3, u9, u4]
theorem en_guard : Tryz.prog.eqGuardType Tryz.prog.depth 49 = false := by kernel_rfl
set_option maxRecDepth 100000 in
theorem fldF (x y z u : Value) (w : World) (i : Nat) (v : Value) (hi : #[x, y, z, u][i]? = some v) : (Instr.field 41 (.agg #[x, y, z, u]) i).run Tryz.prog w = .ok v w := by
  have : i < 4 := by simpa using (Array.getElem?_eq_some_iff.1 hi).1
  match i, this with
  | 0, _ => simp at hi; subst hi; rfl
  | 1, _ => simp at hi; subst hi; rfl
  | 2, _ => simp at hi; subst hi; rfl
  | 3, _ => simp at hi; subst hi; rfl
theorem bt {a b c : World} (h : Below a.heap.size a b) (k : Below b.heap.size b c) : Below a.heap.size a c := h.trans (k.mono h.size)
theorem MsAt.to {w w' : World} {v : Value} {L : List Es} (h : MsAt w w.heap.size v L) (b : Below w.heap.size w w') : MsAt w' w'.heap.size v L := (h.bel b).mono b.size
theorem res_l4x {X : World} {v : Value} (h : MsAt X X.heap.size v L4) : Calls Tryz.prog 16 #[v, .int .i64 0, .string ⟨#[120]⟩] X fun e w' => e = .returned (.agg #[.int .i64 1, .int .i64 3, .string ⟨#[120]⟩, .bool false]) ∧ Below X.heap.size X w' := by
  have C := resolveX_any h (by decide) (by decide) (by decide) 0 ⟨#[120]⟩ (by decide)
  rw [l4x.1, l4x.2.1, l4x.2.2.1, l4x.2.2.2] at C
  exact C
theorem res_k {X : World} {v : Value} {L : List Es} {name : ByteArray} {k : Int} (h : MsAt X X.heap.size v L) (h1 : L.length ≤ 1048576) (h2 : ∀ e ∈ L, e.own.length ≤ 1048576 ∧ e.oth.length ≤ 1048576 ∧ e.st.length ≤ 1048576) (h3 : ∀ e ∈ L, ∀ x ∈ e.own, x.here.size ≤ 1048576) (h4 : (Uni L (Nms L name)).length ≤ 274877906944) (hk : (rsv L (0, name)).k = k) : Calls Tryz.prog 16 #[v, .int .i64 0, .string name] X fun e w' => ∃ m n t, e = .returned (.agg #[.int .i64 k, .int .i64 m, .string n, .bool t]) ∧ Below X.heap.size X w' := by
  have C := resolveX_any h h1 h2 h3 0 name h4
  rw [hk] at C
  exact C.mono fun e w' hh => ⟨_, _, _, hh.1, hh.2⟩
set_option maxRecDepth 100000 in
set_option maxHeartbeats 32000000 in
theorem sure_any (W : World) (he : WEnv W) : Calls Tryz.prog 10 #[] W fun e w' => e = .returned (.bool true) ∧ Below W.heap.size W w' := by
  have CM : Hid (∀ X, Calls Tryz.prog 9 #[.string srcB] X fun e w' => ∃ va vc, e = .returned (.tuple #[.agg #[.int .i64 68, .string ⟨#[]⟩, .int .i64 0, .slice va 3 vc], .int .i64 0, .int .i64 0]) ∧ LAt w' (fun j => X.heap.size ≤ j) (.slice va 3 vc) srcN.ks ∧ Below X.heap.size X w') := fun X => by
    refine (module_src X).mono ?_
    rintro e w' ⟨kv, rfl, l, b⟩
    obtain ⟨va, vc, rfl⟩ := l.sl
    exact ⟨va, vc, rfl, l, b⟩
  have HE : Hid _ := he
  clear he
  go_enter Tryz.func10, Tryz.ntmps10
  go_wp2_with fail
  go_at_call 22
  refine (one_lit _ ⟨#[]⟩ [1, 2] (by decide) (hnewX _ rfl)).mono ?_
  rintro e w1 ⟨a1, a3, rfl, E, b⟩
  have HB1 : Hid (Below W.heap.size W w1) := bel_al b
  have EA : Hid _ := E
  clear E b
  go_wp2_with fail
  go_at_call 22
  refine (one_lit _ ⟨#[]⟩ [3] (by decide) (hnewX _ rfl)).mono ?_
  rintro e w2 ⟨b1, b3, rfl, E, b⟩
  have HB2 : Hid (Below w1.heap.size w1 w2) := bel_al b
  have EB : Hid _ := E
  clear E b
  go_wp2_with fail
  go_at_call 22
  refine (one_lit _ ⟨#[121]⟩ [3] (by decide) (hnewX _ rfl)).mono ?_
  rintro e w3 ⟨c1, c3, rfl, E, b⟩
  have HB3 : Hid (Below w2.heap.size w2 w3) := bel_al b
  have EC : Hid _ := E
  clear E b
  go_wp2_with fail
  go_at_call 22
  refine (one_nil _ ⟨#[120]⟩).mono ?_
  rintro e w4 ⟨d1, d3, rfl, E, b⟩
  have HB4 : Hid (Below w3.heap.size w3 w4) := b
  have ED : Hid _ := E
  clear E b
  go_wp2_with fail
  obtain ⟨g4, hg4⟩ : ∃ n, w4.heap.size = n := ⟨_, rfl⟩
  obtain ⟨wA, hwA⟩ : ∃ Z, w4.alloc (.cells #[.slice none 0 0, a1, .slice none 0 0, a3, .slice none 0 0, b1, .slice none 0 0, b3, .slice none 0 0, c1, .slice none 0 0, c3, .slice none 0 0, d1, .slice none 0 0, d3] 32) = Z := ⟨_, rfl⟩
  have bA4 : Below w4.heap.size w4 wA := by rw [← hwA]; exact bel_a _ _
  have HM4 : Hid (MsAt wA wA.heap.size (.slice (some ⟨g4, 0, none⟩) 4 4) L4) := by
    have hb := hnewX (w := w4) (.cells #[.slice none 0 0, a1, .slice none 0 0, a3, .slice none 0 0, b1, .slice none 0 0, b3, .slice none 0 0, c1, .slice none 0 0, c3, .slice none 0 0, d1, .slice none 0 0, d3] 32) rfl
    rw [hwA, hg4] at hb
    refine ms_lit (L := L4) (V := [(a1, a3), (b1, b3), (c1, c3), (d1, d3)]) rfl hb fun i hi hi' => ?_
    match i, hi with
    | 0, _ => exact (((EA.out.go HB2.out).go HB3.out).go HB4.out).go bA4
    | 1, _ => exact ((EB.out.go HB3.out).go HB4.out).go bA4
    | 2, _ => exact (EC.out.go HB4.out).go bA4
    | 3, _ => exact ED.out.go bA4
  have HBA : Hid (Below W.heap.size W wA) := by
    have s1 := HB1.out.size
    have s2 := HB2.out.size
    have s3 := HB3.out.size
    have s4 := HB4.out.size
    exact HB1.out.trans ((HB2.out.mono s1).trans ((HB3.out.mono (by omega)).trans ((HB4.out.mono (by omega)).trans (bA4.mono (by omega)))))
  rw [hwA, hg4]
  clear EA EB EC ED HB1 HB2 HB3 HB4 bA4 hwA hg4
  clear w4
  generalize W.heap.size = n0, w1.heap.size = n1, w2.heap.size = n2
  go_at_call 9
  refine (CM.out _).mono ?_
  rintro e w5 ⟨va, vc, rfl, l5, b5⟩
  have HL5 : Hid (LAt w5 (fun j => j < w5.heap.size) (.slice va 3 vc) srcN.ks) := l5.mono' fun b hb _ => hb
  have HB5 : Hid (Below wA.heap.size wA w5) := b5
  clear l5 b5
  go_wp2_with fail
  obtain ⟨n5, hn5⟩ : ∃ n, w5.heap.size = n := ⟨_, rfl⟩
  obtain ⟨wB, hwB⟩ : ∃ Z, (w5.alloc (.cells #[.int .i64 68, .string ⟨#[]⟩, .int .i64 0, .slice va 3 vc] 25)).alloc rqO = Z := ⟨_, rfl⟩
  have bB : Below w5.heap.size w5 wB := by rw [← hwB]; exact (bel_a _ _).alloc (by simp) _
  have hq := hnewX (w := w5.alloc (.cells #[.int .i64 68, .string ⟨#[]⟩, .int .i64 0, .slice va 3 vc] 25)) (k := w5.heap.size + 1) rqO (by simp)
  rw [hwB, hn5] at hq
  have CE : Calls Tryz.prog 12 #[.agg #[.int .i64 68, .string ⟨#[]⟩, .int .i64 0, .slice va 3 vc], .slice (some ⟨n5 + 1, 0, none⟩) 1 1] wB _ := entries_src (((WEnv.bel HE.out HBA.out).bel HB5.out).bel bB) ((HL5.out.at bB).mono' fun b hb _ => hb) hq
  have HBB : Hid (Below W.heap.size W wB) := by
    have s1 := HBA.out.size
    have s2 := HB5.out.size
    exact HBA.out.trans ((HB5.out.mono s1).trans (bB.mono (by omega)))
  have HMB : Hid (MsAt wB wB.heap.size (.slice (some ⟨g4, 0, none⟩) 4 4) L4) := by
    have bAB := HB5.out.trans (bB.mono HB5.out.size)
    exact (HM4.out.bel bAB).mono bAB.size
  rw [show w5.alloc (Obj.cells #[Value.int IntKind.i64 68, Value.string { data := #[] }, Value.int IntKind.i64 0, Value.slice va 3 vc] 25) = w5.alloc (.cells #[.int .i64 68, .string ⟨#[]⟩, .int .i64 0, .slice va 3 vc] 25) from rfl, hwB, hn5]
  clear HM4 HBA HB5 HL5 CM hwB hn5 bB hq
  clear w5
  go_at_call 12
  refine CE.mono ?_
  rintro e w6 ⟨g0, k0, g1, k1, g2, k2, rfl, x1, ⟨y0, y1, y2, y3, y4⟩, l1, l2, b6⟩
  have NE := en_neq
  have NG := en_guard
  obtain ⟨wC, hwC⟩ : ∃ Z, w6.alloc (.cells #[.slice (some ⟨g0, 0, none⟩) 1 k0, .slice (some ⟨g1, 0, none⟩) 1 k1, .slice (some ⟨g2, 0, none⟩) 1 k2, .slice none 0 0] 32) = Z := ⟨_, rfl⟩
  have bC : Below w6.heap.size w6 wC := by rw [← hwC]; exact bel_a _ _
  have hC := hnewX (w := w6) (.cells #[.slice (some ⟨g0, 0, none⟩) 1 k0, .slice (some ⟨g1, 0, none⟩) 1 k1, .slice (some ⟨g2, 0, none⟩) 1 k2, .slice none 0 0] 32) rfl
  rw [hwC] at hC
  obtain ⟨⟨z0, z1, z2, z3⟩, _⟩ := t4 hC
  have x1' := (World.cell?_of_block (a := ⟨g1, 0, none⟩) (bC.block g1 l1)).trans x1
  have y0' := (World.cell?_of_block (a := ⟨g2, 0, none⟩) (bC.block g2 l2)).trans y0
  have y1' := (World.cell?_of_block (a := ⟨g2, 1, none⟩) (bC.block g2 l2)).trans y1
  have y2' := (World.cell?_of_block (a := ⟨g2, 2, none⟩) (bC.block g2 l2)).trans y2
  have y3' := (World.cell?_of_block (a := ⟨g2, 3, none⟩) (bC.block g2 l2)).trans y3
  have y4' := (World.cell?_of_block (a := ⟨g2, 4, none⟩) (bC.block g2 l2)).trans y4
  have HBD : Hid (Below wB.heap.size wB (wC.setCell ⟨w6.heap.size, 3, none⟩ (.slice none 0 0))) := (bt b6 bC).setCell b6.size _
  have HD : dflt = ⟨#[100, 101, 102, 97, 117, 108, 116]⟩ := rfl
  rw [HD] at x1'
  clear b6 bC x1 y0 y1 y2 y3 y4 hC CE
  go_wp2_with fail
  have HBW : Hid (Below W.heap.size W (wC.setCell ⟨w6.heap.size, 3, none⟩ (.slice none 0 0))) := bt HBB.out HBD.out
  have HMD : Hid (MsAt (wC.setCell ⟨w6.heap.size, 3, none⟩ (.slice none 0 0)) (wC.setCell ⟨w6.heap.size, 3, none⟩ (.slice none 0 0)).heap.size (.slice (some ⟨g4, 0, none⟩) 4 4) L4) := HMB.out.to HBD.out
  clear HBB HBD HMB hwC x1' y0' y1' y2' y3' y4' z0 z1 z2 z3 l1 l2 NE NG
  have hnC : wC.heap.size = (wC.setCell ⟨w6.heap.size, 3, none⟩ (.slice none 0 0)).heap.size := by simp
  generalize wC.setCell ⟨w6.heap.size, 3, none⟩ (.slice none 0 0) = wD at *
  rw [hnC]
  clear hnC HD
  generalize w6.heap.size = n6 at *
  go_at_call 22
  refine (one_lit _ ⟨#[]⟩ [1] (by decide) (hnewX _ rfl)).mono ?_
  rintro e w7 ⟨e1, e3, rfl, E, b⟩
  have HB7 : Hid (Below wD.heap.size wD w7) := bel_al b
  have EA : Hid _ := E
  clear E b
  go_wp2_with fail
  go_at_call 22
  refine (one_lit _ ⟨#[]⟩ [0] (by decide) (hnewX _ rfl)).mono ?_
  rintro e w8 ⟨f1, f3, rfl, E, b⟩
  have HB8 : Hid (Below w7.heap.size w7 w8) := bel_al b
  have EB : Hid _ := E
  clear E b
  obtain ⟨wE, hwE⟩ : ∃ Z, w8.alloc (.cells #[.slice none 0 0, e1, .slice none 0 0, e3, .slice none 0 0, f1, .slice none 0 0, f3] 32) = Z := ⟨_, rfl⟩
  have bE : Below w8.heap.size w8 wE := by rw [← hwE]; exact bel_a _ _
  have HM2 : Hid (MsAt wE wE.heap.size (.slice (some ⟨w8.heap.size, 0, none⟩) 2 2) L2) := by
    have hb := hnewX (w := w8) (.cells #[.slice none 0 0, e1, .slice none 0 0, e3, .slice none 0 0, f1, .slice none 0 0, f3] 32) rfl
    rw [hwE] at hb
    refine ms_lit (L := L2) (V := [(e1, e3), (f1, f3)]) rfl hb fun i hi hi' => ?_
    match i, hi with
    | 0, _ => exact (EA.out.go HB8.out).go bE
    | 1, _ => exact EB.out.go bE
  have bDE := bt (bt HB7.out HB8.out) bE
  have HBE : Hid (Below W.heap.size W wE) := bt HBW.out bDE
  have HME : Hid (MsAt wE wE.heap.size (.slice (some ⟨g4, 0, none⟩) 4 4) L4) := HMD.out.to bDE
  have R1 := res_l4x HME.out
  clear EA EB HB7 HB8 bE bDE HBW HMD
  go_wp2_with fail
  go_at_call 16
  refine R1.mono ?_
  rintro e w9 ⟨rfl, b9⟩
  have FE : ∀ W, (binOp .eql 41 (.agg #[.int .i64 1, .int .i64 3, .string ⟨#[120]⟩, .bool false]) (.agg #[.int .i64 1, .int .i64 3, .string ⟨#[120]⟩, .bool false])).run Tryz.prog W = .ok (.bool true) W := fun W => by
    have := fd_eql W ⟨1, 3, ⟨#[120]⟩, false⟩ ⟨1, 3, ⟨#[120]⟩, false⟩
    exact this.trans (congrArg (fun b => Result.ok (Value.bool b) W) (by decide))
  have NG := fd_guard
  have HB9 : Hid (Below W.heap.size W w9) := bt HBE.out b9
  have HM9 : Hid (MsAt w9 w9.heap.size (.slice (some ⟨g4, 0, none⟩) 4 4) L4) := HME.out.to b9
  have HN9 : Hid (MsAt w9 w9.heap.size (.slice (some ⟨w8.heap.size, 0, none⟩) 2 2) L2) := HM2.out.to b9
  have R2 := res_k (k := 0) (name := ⟨#[122]⟩) HM9.out (by decide) (by decide) (by decide) (by decide) l4z
  clear b9 HBE HME HM2 R1
  go_wp2_with fail
  go_at_call 16
  refine R2.mono ?_
  rintro e w10 ⟨m, nn, t, rfl, b⟩
  have HBa : Hid (Below W.heap.size W w10) := bt HB9.out b
  have HMa : Hid (MsAt w10 w10.heap.size (.slice (some ⟨g4, 0, none⟩) 4 4) L4) := HM9.out.to b
  have HNa : Hid (MsAt w10 w10.heap.size (.slice (some ⟨w8.heap.size, 0, none⟩) 2 2) L2) := HN9.out.to b
  have F := fun (w : World) => fldF (.int .i64 0) (.int .i64 m) (.string nn) (.bool t) w 0 _ rfl
  have R3 := res_k (k := 4) (name := ⟨#[120]⟩) HNa.out (by decide) (by decide) (by decide) (by decide) l2x
  clear b HB9 HM9 HN9 R2 FE NG
  go_wp2_with fail
  go_at_call 16
  refine R3.mono ?_
  rintro e w11 ⟨m2, nn2, t2, rfl, b⟩
  have HBb : Hid (Below W.heap.size W w11) := bt HBa.out b
  have HMb : Hid (MsAt w11 w11.heap.size (.slice (some ⟨g4, 0, none⟩) 4 4) L4) := HMa.out.to b
  have F2 := fun (w : World) => fldF (.int .i64 4) (.int .i64 m2) (.string nn2) (.bool t2) w 0 _ rfl
  have R4 := namesX_any HMb.out (by decide) (by decide) (by decide) (fun n => show 4 ≤ 274877906944 by decide) 0
  rw [l4n] at R4
  clear b HBa HMa HNa R3 F
  go_wp2_with fail
  go_at_call 18
  refine R4.mono ?_
  rintro e w12 ⟨vr, rfl, ht, b⟩
  have HBc : Hid (Below W.heap.size W w12) := bt HBb.out b
  have HTA : Hid (TA w12 w12.heap.size vr [⟨#[120]⟩, ⟨#[121]⟩]) := TA.of ht
  obtain ⟨wF, hwF⟩ : ∃ Z, w12.alloc (.cells #[.string ⟨#[120]⟩, .string ⟨#[121]⟩] 9) = Z := ⟨_, rfl⟩
  have bF : Below w12.heap.size w12 wF := by rw [← hwF]; exact bel_a _ _
  have hF := hnewX (w := w12) (.cells #[.string ⟨#[120]⟩, .string ⟨#[121]⟩] 9) rfl
  rw [hwF] at hF
  have HTB : Hid (TA wF wF.heap.size (.slice (some ⟨w12.heap.size, 0, none⟩) 2 2) [⟨#[120]⟩, ⟨#[121]⟩]) := ⟨⟨_, _, rfl⟩, fun _ => ⟨_, 0, 2, rfl, (Array.getElem?_eq_some_iff.1 hF).1, fun i hi => by
    match i, hi with
    | 0, _ => simp [World.cell?, hF]
    | 1, _ => simp [World.cell?, hF]⟩⟩
  have R5 : Calls Tryz.prog 20 #[vr, .slice (some ⟨w12.heap.size, 0, none⟩) 2 2] wF fun e w' => e = .returned (.bool true) ∧ Below wF.heap.size wF w' := (texts_any ((HTA.out.bel bF).mono bF.size) HTB.out (by decide) (by decide)).mono fun e w' h => ⟨by rw [h.1, decide_eq_true rfl], h.2⟩
  have HBF : Hid (Below W.heap.size W wF) := bt HBc.out bF
  clear b HBb HMb ht hF bF HTA HTB R4 F2 HBc
  go_wp2_with fail
  go_at_call 20
  refine R5.mono ?_
  rintro e w13 ⟨rfl, b⟩
  have HBd : Hid (Below W.heap.size W w13) := bt HBF.out b
  clear b HBF R5
  go_wp2_with fail
  go_at_call 22
  refine (one_lit _ ⟨#[]⟩ [1, 2] (by decide) (hnewX _ rfl)).mono ?_
  rintro e w14 ⟨p1, p3, rfl, E, b⟩
  have HBe : Hid (Below W.heap.size W w14) := bt HBd.out (bel_al b)
  have EA : Hid _ := E
  clear E b HBd
  go_wp2_with fail
  go_at_call 22
  refine (one_nil _ ⟨#[120]⟩).mono ?_
  rintro e w15 ⟨q1, q3, rfl, E, b⟩
  have HBf : Hid (Below W.heap.size W w15) := bt HBe.out b
  have EA' : Hid _ := EA.out.go b
  have EB : Hid _ := E
  clear E b EA HBe
  go_wp2_with fail
  go_at_call 22
  refine (one_nil _ ⟨#[120]⟩).mono ?_
  rintro e w16 ⟨r1, r3, rfl, E, b⟩
  have HBg : Hid (Below W.heap.size W w16) := bt HBf.out b
  have EA : Hid _ := EA'.out.go b
  have EB' : Hid _ := EB.out.go b
  have EC : Hid _ := E
  clear E b EA' EB HBf
  obtain ⟨wG, hwG⟩ : ∃ Z, w16.alloc (.cells #[.slice none 0 0, p1, .slice none 0 0, p3, .slice none 0 0, q1, .slice none 0 0, q3, .slice none 0 0, r1, .slice none 0 0, r3] 32) = Z := ⟨_, rfl⟩
  have bG : Below w16.heap.size w16 wG := by rw [← hwG]; exact bel_a _ _
  have HM3 : Hid (MsAt wG wG.heap.size (.slice (some ⟨w16.heap.size, 0, none⟩) 3 3) L3) := by
    have hb := hnewX (w := w16) (.cells #[.slice none 0 0, p1, .slice none 0 0, p3, .slice none 0 0, q1, .slice none 0 0, q3, .slice none 0 0, r1, .slice none 0 0, r3] 32) rfl
    rw [hwG] at hb
    refine ms_lit (L := L3) (V := [(p1, p3), (q1, q3), (r1, r3)]) rfl hb fun i hi hi' => ?_
    match i, hi with
    | 0, _ => exact EA.out.go bG
    | 1, _ => exact EB'.out.go bG
    | 2, _ => exact EC.out.go bG
  have R6 := res_k (k := 3) (name := ⟨#[120]⟩) HM3.out (by decide) (by decide) (by decide) (by decide) l3x
  have HBG : Hid (Below W.heap.size W wG) := bt HBg.out bG
  clear EA EB' EC bG HM3 HBg
  go_wp2_with fail
  go_at_call 16
  refine R6.mono ?_
  rintro e w17 ⟨m3, nn3, t3, rfl, b⟩
  have F3 := fun (w : World) => fldF (.int .i64 3) (.int .i64 m3) (.string nn3) (.bool t3) w 0 _ rfl
  have HB : Hid (Below W.heap.size W w17) := bt HBG.out b
  clear b HBG R6
  go_wp2
  go_ret
  exact ⟨rfl, HB.out⟩
end Go.Proofs.YtadkmlcnmkdfiaaGreatDoor
