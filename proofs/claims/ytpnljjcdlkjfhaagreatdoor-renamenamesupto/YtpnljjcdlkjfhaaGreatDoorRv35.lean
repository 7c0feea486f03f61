/- Own text. Requests: what the items of a tree ask for; the document's Requests, the program's, and how they are held against each other. Regions that draw their order: order by order; what loads from a block which nobody writes ahead of a certain operation is taken first. -/
import Derived.Test.YtpnljjcdlkjfhaaGreatDoorRv02
import Derived.Test.YtpnljjcdlkjfhaaGreatDoorRv34
import Derived.Test.YtpnljjcdlkjfhaaGreatDoorProg
import Derived.WalkKit
import Derived.ProofKit
import Derived.OrdersHeld
import Derived.Deep.RegionHeld3
import Derived.Deep.AppendLies
set_option linter.unusedVariables false
set_option linter.unusedSimpArgs false
namespace Go.Proofs.YtpnljjcdlkjfhaaGreatDoor
open Go.RowKit
/-- a request: its text, of types alone, its item, its target. -/
structure Rq where
  t : ByteArray
  ty : Bool
  it : Nat
  tg : Int
def Rq.cs (r : Rq) : List Value := [.string r.t, .bool r.ty, .int .i64 (r.it : Nat), .int .i64 r.tg]
def rqL (L : List Rq) : List Value := L.flatMap Rq.cs
theorem rqL_append (L M : List Rq) : rqL (L ++ M) = rqL L ++ rqL M := by simp [rqL]
theorem rqL_length : ∀ L : List Rq, (rqL L).length = L.length * 4
  | [] => rfl
  | r :: L => by
    have e : rqL (r :: L) = r.cs ++ rqL L := rfl
    rw [e, List.length_append, rqL_length L, List.length_cons]; simp [Rq.cs]; omega
theorem rqL_get : ∀ (L : List Rq) (i : Nat) (h : i < L.length) (j : Nat), j < 4 → (rqL L)[i * 4 + j]? = (L[i].cs)[j]?
  | r :: L, 0, h, j, hj => by
    have e : rqL (r :: L) = r.cs ++ rqL L := rfl
    rw [e, List.getElem?_append_left (by simp [Rq.cs]; omega)]; simp
  | r :: L, i + 1, h, j, hj => by
    have e : rqL (r :: L) = r.cs ++ rqL L := rfl
    rw [e, List.getElem?_append_right (by simp [Rq.cs]; omega)]
    have e1 : (i + 1) * 4 + j - (r.cs).length = i * 4 + j := by simp [Rq.cs]; omega
    rw [e1, rqL_get L i (by simpa using h) j hj]
    rfl
def asksN (x : Nd) : Bool := x.k == 60 || (x.k == 64 && !(x.t.toList == []))
def reqF : List Nd → Nat → List Rq
  | [], _ => []
  | x :: xs, i => if asksN x = true then ⟨x.t, x.n == 1, i, 0⟩ :: reqF xs (i + 1) else reqF xs (i + 1)
theorem reqF_snoc (x : Nd) : ∀ (l : List Nd) (i : Nat), reqF (l ++ [x]) i = reqF l i ++ (if asksN x = true then [⟨x.t, x.n == 1, i + l.length, 0⟩] else [])
  | [], i => by simp [reqF]
  | y :: l, i => by
    rw [List.cons_append, reqF, reqF, reqF_snoc x l (i + 1), List.length_cons]
    have e : i + 1 + l.length = i + (l.length + 1) := by omega
    rw [e]
    by_cases h : asksN y = true
    · rw [if_pos h, if_pos h]; rfl
    · rw [if_neg h, if_neg h]
theorem reqF_len : ∀ (l : List Nd) (i : Nat), (reqF l i).length ≤ l.length
  | [], i => by simp [reqF]
  | x :: l, i => by
    rw [reqF]
    have := reqF_len l (i + 1)
    split
    · simp; omega
    · simp; omega
/-- the requests of a tree. -/
def reqsL (x : Nd) : List Rq := if x.k = 68 then reqF x.ks 0 else []
theorem info_rq : (Tryz.prog.info? 152).map (fun i => (i.zero, i.size, i.bytes)) = some (some (.agg #[.string ByteArray.empty, .bool false, .int .i64 0, .int .i64 0]), 4, 40) := by kernel_rfl
/-- requests in a row of the call's own. -/
abbrev RqO (w : World) (B : Nat) (v : Value) (L : List Rq) : Prop := w.ownsRow B 152 4 v L.length (rqL L)
theorem row_mono10 {w : World} {base base' : Nat} {e : TypeId} {size : Nat} {v : Value} {n : Nat} {xs : List Value} (h : w.ownsRow base e size v n xs) (hb : base' ≤ base) : w.ownsRow base' e size v n xs := by
  refine ⟨h.1, h.2.imp id ?_⟩
  rintro ⟨g, cap, cur, e1, h1, h2⟩
  exact ⟨g, cap, cur, e1, by omega, h2⟩
theorem nd_cells {W : World} {b : Nat} {p q r s : Value} (h : W.heap[b]? = some (.cells #[p, q, r, s] 51 (0, 0))) : W.cell? ⟨b, 0, none⟩ = some p ∧ W.cell? ⟨b, 1, none⟩ = some q ∧ W.cell? ⟨b, 2, none⟩ = some r ∧ W.cell? ⟨b, 3, none⟩ = some s := (box4 h).1
theorem rq_snoc {W : World} {B g cap : Nat} {L : List Rq} {r : Rq} (h : W.ownsRow B 152 4 (.slice (some ⟨g, 0, none⟩) (L.length + 1) cap) (L.length + 1) (rqL L ++ r.cs)) : RqO W B (.slice (some ⟨g, 0, none⟩) (L.length + 1) cap) (L ++ [r]) := by
  have e : rqL (L ++ [r]) = rqL L ++ r.cs := by rw [rqL_append]; simp [rqL]
  unfold RqO
  rw [e, List.length_append]
  exact h
theorem rq_far {w wr Wb W3 : World} {v : Value} {L : List Rq} (own : RqO wr (w.heap.size + 1) v L) (bel : Below w.heap.size w wr) (sz : w.heap.size + 1 ≤ wr.heap.size) (hg : Wb.grownBy W3 v.ownBlock) (b : Below wr.heap.size wr Wb) : W3.heap[w.heap.size]? = wr.heap[w.heap.size]? ∧ Below w.heap.size w W3 ∧ wr.heap.size ≤ W3.heap.size := by
  have hl := b.size
  have ne : ∀ j, j < w.heap.size + 1 → some j ≠ v.ownBlock := fun j hj e => by have := (row_lt own j e.symm).1; omega
  exact ⟨(hg.block _ (by omega) (ne _ (by omega))).trans (b.block _ (by omega)), (bel.trans (b.mono bel.size)).grown hg (by have := bel.size; omega) (fun j e => by have := (row_lt own j e).1; omega), by have := hg.size; omega⟩
set_option maxRecDepth 100000 in
set_option maxHeartbeats 4000000 in
theorem rreq_any (x : Nd) (w : World) (S : Nat → Prop) (v : Value) (hx : LAt w S v x.ks) (zx : x.ks.length ≤ 4194304) :
    Calls Tryz.prog 74 #[x.v v] w fun e w' => ∃ v', e = .returned v' ∧ RqO w' w.heap.size v' (reqsL x) ∧ Below w.heap.size w w' := by
  obtain ⟨ax, cx, bx, ox, fx, rfl, px, qx, rx⟩ := hx.op
  obtain ⟨i0, hi0, hz0, hz1, hz2⟩ := info_parts info_rq
  obtain ⟨res, hres⟩ : ∃ r, reqsL x = r := ⟨_, rfl⟩
  have HR : Hid (reqsL x = res) := hres
  rw [hres]
  clear hres
  unfold Nd.v
  by_cases h68 : x.k = 68
  · obtain rfl : reqF x.ks 0 = res := by rw [← HR.out, reqsL, if_pos h68]
    have h68' : (x.k != 68) = false := by simpa using h68
    clear HR h68
    have hb0 : Below w.heap.size w (w.alloc (Obj.cells #[Value.int IntKind.i64 x.k, Value.string x.t, Value.int IntKind.i64 x.n, Value.slice ax x.ks.length cx] 51)) := bel_a _ _
    have m0 : (w.alloc (Obj.cells #[Value.int IntKind.i64 x.k, Value.string x.t, Value.int IntKind.i64 x.n, Value.slice ax x.ks.length cx] 51)).heap[w.heap.size]? = some (.cells #[Value.int IntKind.i64 x.k, Value.string x.t, Value.int IntKind.i64 x.n, Value.slice ax x.ks.length cx] 51 (0, 0)) := heap_alloc_new w _
    go_enter Tryz.func74, Tryz.ntmps74
    go_wp2
    go_loopw [3, 4] (fun v3 i wr => ∃ (k : Nat) (L : List Rq), i = .int .i64 (k : Nat) ∧ k ≤ x.ks.length ∧ Below w.heap.size w wr ∧ w.heap.size + 1 ≤ wr.heap.size ∧ wr.heap[w.heap.size]? = some (.cells #[Value.int IntKind.i64 x.k, Value.string x.t, Value.int IntKind.i64 x.n, Value.slice ax x.ks.length cx] 51 (0, 0)) ∧ RqO wr (w.heap.size + 1) v3 L ∧ L.length ≤ k ∧ Hid (L = reqF (x.ks.take k) 0)) (fun _ i _ => x.ks.length - (intOf i).toNat)
    case atStart => exact ⟨0, [], rfl, by omega, hb0, by simp, m0, World.ownsRow_nil _ _ _ _, by simp, by simp [Hid, reqF]⟩
    case round =>
      clear m0 hb0
      obtain ⟨k, L, rfl, hk, bel, sz, m0, own, hL, HL⟩ := hrel
      obtain ⟨_, _, _, e3⟩ := nd_cells m0
      by_cases hkl : k < x.ks.length
      · obtain ⟨rfl, hSx, hbx⟩ := px (by omega)
        have HS : Hid (x.ks.take (k + 1) = x.ks.take k ++ [x.ks[k]]) := List.take_succ_eq_append_getElem hkl
        have htl : (x.ks.take k).length = k := by rw [List.length_take]; omega
        obtain ⟨⟨u1, u2, u3, u4⟩, gx⟩ := kid_at (qx k hkl) (rx k hkl) hbx bel
        have HN : Hid (reqF (x.ks.take (k + 1)) 0 = L ++ (if asksN x.ks[k] = true then [⟨x.ks[k].t, x.ks[k].n == 1, k, 0⟩] else [])) := by show _ = _; rw [HS.out, reqF_snoc, HL.out, htl]; simp
        clear htl HS HL
        generalize x.ks[k] = xk at *
        generalize fx k = fxk at *
        obtain ⟨ak, ck, rfl⟩ := gx.sl
        obtain ⟨WB, hWB⟩ : ∃ W, wr.alloc (Obj.cells #[Value.int IntKind.i64 xk.k, Value.string xk.t, Value.int IntKind.i64 xk.n, Value.slice ak xk.ks.length ck] 51) = W := ⟨_, rfl⟩
        have bB : Below wr.heap.size wr WB := by rw [← hWB]; exact bel_a _ _
        have ownB := row_bel own bB
        have hd : xk.t.toList = xk.t.data.toList := ByteArray.toList_eq xk.t
        cases hq : asksN xk with
        | false =>
          have HN' : Hid (L = reqF (x.ks.take (k + 1)) 0) := by show _ = _; rw [HN.out, hq]; simp
          have belB := bel.trans (bB.mono bel.size)
          have m0' := (bB.block _ (by omega)).trans m0
          have szB := bB.size
          rw [← hWB] at ownB belB m0' szB
          unfold asksN at hq
          by_cases h60 : xk.k = 60
          · rw [h60] at hq; simp at hq
          by_cases h64 : xk.k = 64
          · have ht : (xk.t.toList == []) = true := by rw [h64] at hq; simpa using hq
            have ht' : (xk.t.data.toList == []) = true := by rw [← hd]; exact ht
            have hk60 : (xk.k == 60) = false := by simpa using h60
            have hk64 : (xk.k == 64) = true := by simpa using h64
            have htn : (xk.t.data.toList != []) = false := by simpa using ht'
            clear hq HN hWB bB h60 h64 gx
            go_wp2
            go_roundw
            case rel => exact ⟨k + 1, L, by simp, by omega, belB, by simp at szB ⊢; omega, m0', ownB, by omega, HN'⟩
            case measure => simp [intOf]; omega
          · have hk60 : (xk.k == 60) = false := by simpa using h60
            have hk64 : (xk.k == 64) = false := by simpa using h64
            clear hq HN hWB bB h60 h64 gx
            go_wp2
            go_roundw
            case rel => exact ⟨k + 1, L, by simp, by omega, belB, by simp at szB ⊢; omega, m0', ownB, by omega, HN'⟩
            case measure => simp [intOf]; omega
        | true =>
          have HN' : Hid (L ++ [⟨xk.t, xk.n == 1, k, 0⟩] = reqF (x.ks.take (k + 1)) 0) := by show _ = _; rw [HN.out, hq]; simp
          have hcase : (xk.k == 60) = true ∨ ((xk.k == 60) = false ∧ (xk.k == 64) = true ∧ xk.t.toList.isEmpty = false) := by
            unfold asksN at hq
            cases h1 : (xk.k == 60) with
            | true => exact .inl rfl
            | false =>
              rw [h1] at hq
              simp only [Bool.false_or, Bool.and_eq_true] at hq
              exact .inr ⟨rfl, hq.1, by cases e : xk.t.toList with | nil => rw [e] at hq; simp at hq | cons a l => rfl⟩
          rw [← hWB] at ownB
          clear hq HN hWB bB gx hd
          rcases hcase with c1 | ⟨c1, c2, c3⟩
          all_goals
            go_wp2_with (at_builtin; refine wpList_append_lies _ (by rfl) _ _ _ (by rfl) (w.heap.size + 1) 152 i0 _ 4 40 Tryz.underlying101 hi0 hz0 hz1 hz2 rfl (by omega) _ L.length (rqL L) (by rfl) (ownB.alloc _) ⟨wr.heap.size + 1, 0, none⟩ 1 1 [.string xk.t, .bool (xk.n == 1), .int .i64 (k : Nat), .int .i64 0] (by rfl) (by rfl) (World.news_of_block (cs := #[.string xk.t, .bool (xk.n == 1), .int .i64 (k : Nat), .int .i64 0]) (t := 152) (fr := (0, 0)) (hnew _ (by simp))) (by simp [Value.oneCell']) (by omega) (by unfold maxLen; omega) (by omega) (by simp; omega) (wr.heap.size + 2) (by simp) ?_; intro gg cap W3 hown3 hgrow hat hlt3)
            obtain ⟨j0, hB3, hs3⟩ := rq_far own bel sz hgrow ((bel_a _ _).alloc (by simp) _)
            have m3 := j0.trans m0
            go_roundw
            case rel => exact ⟨k + 1, L ++ [⟨xk.t, xk.n == 1, k, 0⟩], by simp, by omega, hB3, by omega, m3, rq_snoc (r := ⟨xk.t, xk.n == 1, k, 0⟩) hown3, by simp; omega, HN'⟩
            case measure => simp [intOf]; omega
      · have e : x.ks.take k = x.ks := List.take_of_length_le (by omega)
        have hLe : L = reqF x.ks 0 := by rw [HL.out, e]
        subst hLe
        clear e HL
        go_wp2
        go_ret
        exact ⟨_, rfl, row_mono10 own (by omega), bel⟩
  · obtain rfl : [] = res := by rw [← HR.out, reqsL, if_neg h68]
    clear HR
    have h68' : (x.k != 68) = true := by simpa using h68
    go_enter Tryz.func74, Tryz.ntmps74
    go_wp2
    go_ret
    exact ⟨_, rfl, World.ownsRow_nil _ _ _ _, bel_a _ _⟩
section
variable {PP : Program} {md : Region.Mode} {ops : Array Oper} {Q : Exit → Act → World → Prop}
/-- from here on each operation comes up alone, in this order. -/
def chainB (md : Region.Mode) (ops : Array Oper) : Array Bool → List Nat → Bool
  | listed, [] => Region.ready md ops listed == []
  | listed, i :: is => (Region.ready md ops listed == [i]) && chainB md ops (listed.setIfInBounds i true) is
theorem wpOp_list {i : Nat} {o : Oper} {rest : List Oper} {a : Act} {w : World} (ho : ops[i]? = some o) (h : wpList PP ops Q (o :: rest) a w) : wpOp PP ops Q i (wpList PP ops Q rest) a w := by
  unfold wpOp
  rw [ho]
  unfold wpList at h
  exact h
theorem wpAny_chain : ∀ (os : List Oper) (is : List Nat) (fuel : Nat) (listed : Array Bool) (a : Act) (w : World), chainB md ops listed is = true → is.map (ops[·]?) = os.map some → is.length ≤ fuel → wpList PP ops Q os a w → wpAny PP md ops Q fuel listed a w
  | [], [], fuel, listed, a, w, hc, _, _, h => by
    have hr : Region.ready md ops listed = [] := by simpa [chainB] using hc
    cases fuel with
    | zero => exact ⟨hr, h⟩
    | succ f => exact ⟨fun _ => h, fun i hi => by rw [hr] at hi; cases hi⟩
  | o :: os, i :: is, fuel, listed, a, w, hc, hm, hf, h => by
    obtain ⟨f, rfl⟩ : ∃ f, fuel = f + 1 := ⟨fuel - 1, by simp at hf; omega⟩
    have hc' : Region.ready md ops listed = [i] ∧ chainB md ops (listed.setIfInBounds i true) is = true := by simpa [chainB] using hc
    simp only [List.map_cons, List.cons.injEq] at hm
    refine ⟨fun h0 => (by rw [hc'.1] at h0; cases h0), fun j hj => ?_⟩
    rw [hc'.1] at hj
    obtain rfl : j = i := by simpa using hj
    exact wpOp_mono (fun a' w' h' => wpAny_chain os is f _ a' w' hc'.2 hm.2 (by simpa using hf) h') (wpOp_list hm.1 h)
  | [], _ :: _, _, _, _, _, _, hm, _, _ => by cases hm
  | _ :: _, [], _, _, _, _, _, hm, _, _ => by cases hm
/-- one of two comes up; behind it each comes up alone. -/
theorem wpAny_two {i j : Nat} {is js : List Nat} {oi oj : Oper} {os us : List Oper} {fuel : Nat} {listed : Array Bool} {a : Act} {w : World} (hr : Region.ready md ops listed = [i, j]) (hi : ops[i]? = some oi) (hj : ops[j]? = some oj)
    (ci : chainB md ops (listed.setIfInBounds i true) is = true) (cj : chainB md ops (listed.setIfInBounds j true) js = true) (mi : is.map (ops[·]?) = os.map some) (mj : js.map (ops[·]?) = us.map some) (li : is.length ≤ fuel) (lj : js.length ≤ fuel)
    (h1 : wpList PP ops Q (oi :: os) a w) (h2 : wpList PP ops Q (oj :: us) a w) : wpAny PP md ops Q (fuel + 1) listed a w := by
  refine ⟨fun h0 => (by rw [hr] at h0; cases h0), fun k hk => ?_⟩
  rw [hr] at hk
  rcases List.mem_cons.1 hk with rfl | hk
  · exact wpOp_mono (fun a' w' h' => wpAny_chain os is fuel _ a' w' ci mi li h') (wpOp_list hi h1)
  · obtain rfl : k = j := by simpa using hk
    exact wpOp_mono (fun a' w' h' => wpAny_chain us js fuel _ a' w' cj mj lj h') (wpOp_list hj h2)
end
section
variable {PP : Program} {ops : Array Oper} {Q : Exit → Act → World → Prop} {md : Region.Mode} {S : World → Prop} {u : Nat}
/-- whatever order is picked: S holds behind each operation that comes ahead of number u. -/
def wpAnyU (PP : Program) (md : Region.Mode) (ops : Array Oper) (Q : Exit → Act → World → Prop) (S : World → Prop) (u : Nat) : Nat → Array Bool → Act → World → Prop
  | 0, listed, a, w => Region.ready md ops listed = [] ∧ Q .normal a w
  | fuel + 1, listed, a, w => (Region.ready md ops listed = [] → Q .normal a w) ∧ ∀ i ∈ Region.ready md ops listed, wpOp PP ops Q i (fun a' w' => if i = u then wpAny PP md ops Q fuel (listed.setIfInBounds i true) a' w' else S w' ∧ wpAnyU PP md ops Q S u fuel (listed.setIfInBounds i true) a' w') a w
theorem any_of_U : ∀ (fuel : Nat) (listed : Array Bool) (a : Act) (w : World), wpAnyU PP md ops Q S u fuel listed a w → wpAny PP md ops Q fuel listed a w
  | 0, _, _, _, h => h
  | fuel + 1, _, _, _, h => ⟨h.1, fun i hi => wpOp_mono (fun a' w' h' => by
      split at h'
      · exact h'
      · exact any_of_U fuel _ a' w' h'.2) (h.2 i hi)⟩
/-- number u waits for number i. -/
def waits (md : Region.Mode) (ops : Array Oper) (u i : Nat) : Bool := match ops[u]? with
  | some o => o.after.any fun e => Region.binds md e && e.on == i
  | none => false
/-- of two that may come up neither waits for the other. -/
theorem edge_free {listed : Array Bool} {i j : Nat} {oj : Oper} (hr : i ∈ Region.ready md ops listed) (hj : j ∈ Region.ready md ops listed) (hoj : ops[j]? = some oj) {e : Edge} (he : e ∈ oj.after) (hb : Region.binds md e = true) : e.on ≠ i := by
  rintro rfl
  obtain ⟨h0, _⟩ := Go.mem_ready.1 hr
  obtain ⟨_, o, ho, hall⟩ := Go.mem_ready.1 hj
  obtain rfl : o = oj := by rw [ho] at hoj; injection hoj
  have h1 := hall e he hb
  by_cases hl : e.on < listed.size
  · simp only [hl, Array.getD, dite_true, Array.getElem?_eq_getElem] at h0 h1
    simp_all
  · simp_all [Array.getD]
theorem unlisted {listed : Array Bool} {j k : Nat} (h : (listed.setIfInBounds j true).getD k true = false) : listed.getD k true = false := by
  by_cases hjk : j = k
  · exfalso
    subst hjk
    simp [Array.getD] at h
  · rwa [getD_set_ne true hjk] at h
/-- what yields in every world that meets S, and what number u waits for, may be taken first. -/
theorem U_first {i : Nat} {oi : Oper} {v : Value} (hi : ops[i]? = some oi) (hsel : ∀ (j : Nat) (o : Oper) cs b, ops[j]? = some o → o.op ≠ .select cs b)
    (hQ : ∀ c a w, Q (.panic c) (a.put oi.dst v) w → Q (.panic c) a w) (hiu : i ≠ u) (hu : waits md ops u i = true) (fuel : Nat) :
    ∀ (listed : Array Bool) (a : Act) (w : World),
      (∀ j oj, ops[j]? = some oj → j ≠ i → listed.getD j true = false → (∀ e ∈ oj.after, Region.binds md e = true → e.on ≠ i) → oi.apart ops oj = true) →
      i ∈ Region.ready md ops listed → YieldsIf PP ops S oi v a → S w →
      wpAnyU PP md ops Q S u fuel (listed.setIfInBounds i true) (a.put oi.dst v) w → wpAnyU PP md ops Q S u (fuel + 1) listed a w := by
  have hju : ∀ {listed : Array Bool} {j : Nat}, i ∈ Region.ready md ops listed → j ∈ Region.ready md ops listed → j ≠ u := by
    rintro listed j hr hj rfl
    obtain ⟨_, oj, hoj, _⟩ := Go.mem_ready.1 hj
    simp only [waits, hoj, Array.any_eq_true, Bool.and_eq_true, beq_iff_eq] at hu
    obtain ⟨k, hk, h1, h2⟩ := hu
    exact edge_free hr hj hoj (Array.getElem_mem hk) h1 h2
  induction fuel with
  | zero =>
    intro listed a w _ hr hy hS H
    have none : ∀ j ∈ Region.ready md ops listed, j = i := fun j hj => Classical.byContradiction fun hji => by
      have := ready_mono hj hji
      rw [H.1] at this
      cases this
    refine ⟨fun h0 => ?_, fun j hj => ?_⟩
    · rw [h0] at hr; cases hr
    · cases none j hj
      exact hy.wpOp hi hS (by rw [if_neg hiu]; exact ⟨hS, H⟩)
  | succ fuel ih =>
    intro listed a w hfree hr hy hS H
    refine ⟨fun h0 => ?_, fun j hj => ?_⟩
    · rw [h0] at hr; cases hr
    by_cases hji : j = i
    · cases hji
      exact hy.wpOp hi hS (by rw [if_neg hiu]; exact ⟨hS, H⟩)
    obtain ⟨hjun, oj, hoj, _⟩ := Go.mem_ready.1 hj
    have hne := hju hr hj
    have hap := hfree j oj hoj hji hjun (fun e he hb => edge_free hr hj hoj he hb)
    refine wpOp_mono ?_ (wpOp_putIf hoj hap (fun cs b => hsel i oi cs b hi) (fun cs b => hsel j oj cs b hoj) hQ hy (H.2 j (ready_mono hj hji)))
    rintro a' w' ⟨hy', hW⟩
    rw [if_neg hne] at hW ⊢
    refine ⟨hW.1, ih _ _ _ (fun k ok hk hki hun => hfree k ok hk hki (unlisted hun)) (ready_mono hr (Ne.symm hji)) hy' hW.1 ?_⟩
    rw [Array.setIfInBounds_comm _ _ hji]
    exact hW.2
theorem U_take {i : Nat} {oi : Oper} {v : Value} {fuel : Nat} {listed : Array Bool} {a : Act} {w : World} (hi : ops[i]? = some oi)
    (hs : Region.noSelect ops = true) (hf : Region.free md ops listed i = true) (hr : (Region.ready md ops listed).contains i = true) (hu : (waits md ops u i && decide (i ≠ u)) = true)
    (hQ : ∀ c a w, Q (.panic c) (a.put oi.dst v) w → Q (.panic c) a w) (hy : YieldsIf PP ops S oi v a) (hS : S w)
    (h : wpAnyU PP md ops Q S u fuel (listed.setIfInBounds i true) (a.put oi.dst v) w) : wpAnyU PP md ops Q S u (fuel + 1) listed a w := by
  rw [Bool.and_eq_true, decide_eq_true_eq] at hu
  exact U_first hi (Region.noSelect_spec hs) hQ hu.2 hu.1 fuel listed a w (Region.free_spec hi hf) (by simpa using hr) hy hS h
theorem uT (i : Nat) (v : Value) {oi : Oper} {fuel : Nat} {listed : Array Bool} {a : Act} {w : World} (hS : S w) (h : wpAnyU PP md ops Q S u fuel (listed.setIfInBounds i true) (a.put oi.dst v) w) (hi : ops[i]? = some oi := by rfl)
    (hy : YieldsIf PP ops S oi v a := by exact Or.inl ⟨by kernel_rfl, by intro w hSw; (try dsimp only at hSw); go_simp⟩) (hs : Region.noSelect ops = true := by kernel_rfl) (hf : Region.free md ops listed i = true := by kernel_rfl) (hr : (Region.ready md ops listed).contains i = true := by kernel_rfl) (hu : (waits md ops u i && decide (i ≠ u)) = true := by kernel_rfl)
    (hQ : ∀ c a w, Q (.panic c) (a.put oi.dst v) w → Q (.panic c) a w := by exact fun _ _ _ h => h) : wpAnyU PP md ops Q S u (fuel + 1) listed a w := U_take hi hs hf hr hu hQ hy hS h
theorem uS (i : Nat) {oi : Oper} {fuel : Nat} {listed : Array Bool} {a : Act} {w : World} (hS : S w) (h : wpAnyU PP md ops Q S u fuel (listed.setIfInBounds i true) (a.put oi.dst undef) w) (hi : ops[i]? = some oi := by rfl)
    (hy : YieldsIf PP ops S oi undef a := by exact Or.inr ⟨by kernel_rfl, rfl⟩) (hs : Region.noSelect ops = true := by kernel_rfl) (hf : Region.free md ops listed i = true := by kernel_rfl) (hr : (Region.ready md ops listed).contains i = true := by kernel_rfl) (hu : (waits md ops u i && decide (i ≠ u)) = true := by kernel_rfl)
    (hQ : ∀ c a w, Q (.panic c) (a.put oi.dst undef) w → Q (.panic c) a w := by exact fun _ _ _ h => h) : wpAnyU PP md ops Q S u (fuel + 1) listed a w := U_take hi hs hf hr hu hQ hy hS h
theorem wp_region_U {id : Nat} {a : Act} {w : World} (hm : PP.follows .mixedOrders = true) (h : wpAnyU PP .any ops Q S u ops.size (Array.replicate ops.size false) a w.drew) : (Code.region id ops true).wp PP Q a w :=
  wp_region_any hm (any_of_U _ _ _ _ h)
/-- number u alone is left of what may come up. -/
theorem U_end {fuel : Nat} {listed : Array Bool} {a : Act} {w : World} (hr : Region.ready md ops listed = [u]) (h : wpAny PP md ops Q (fuel + 1) listed a w) : wpAnyU PP md ops Q S u (fuel + 1) listed a w :=
  ⟨h.1, fun i hi => by
    have h1 := h.2 i hi
    rw [hr] at hi
    obtain rfl : i = u := by simpa using hi
    simpa using h1⟩
def AllU (PP : Program) (md : Region.Mode) (ops : Array Oper) (Q : Exit → Act → World → Prop) (S : World → Prop) (u : Nat) (fuel : Nat) (listed : Array Bool) (a : Act) (w : World) (rs : List Nat) : Prop :=
  ∀ i ∈ rs, wpOp PP ops Q i (fun a' w' => if i = u then wpAny PP md ops Q fuel (listed.setIfInBounds i true) a' w' else S w' ∧ wpAnyU PP md ops Q S u fuel (listed.setIfInBounds i true) a' w') a w
theorem AllU.nil {fuel : Nat} {listed : Array Bool} {a : Act} {w : World} : AllU PP md ops Q S u fuel listed a w [] := fun _ h => by cases h
theorem AllU.cons {fuel : Nat} {listed : Array Bool} {a : Act} {w : World} {i : Nat} {o : Oper} {rs : List Nat} (ho : ops[i]? = some o) (hiu : i ≠ u)
    (h : ∀ K' : Act → World → Prop, Hid (∀ a w, S w → wpAnyU PP md ops Q S u fuel (listed.setIfInBounds i true) a w → K' a w) → if Region.wanted o (yielded ops a.tmps) = true then Oper.wp PP o a w K' Q else K' (a.put o.dst undef) w)
    (hs : AllU PP md ops Q S u fuel listed a w rs) : AllU PP md ops Q S u fuel listed a w (i :: rs) := fun j hj => by
  rcases List.mem_cons.1 hj with rfl | hj
  · refine wpOp_step ho (fun K' hK => h K' (fun a w hS hW => hK a w ?_))
    rw [if_neg hiu]
    exact ⟨hS, hW⟩
  · exact hs j hj
theorem U_ready {rs : List Nat} {fuel : Nat} {listed : Array Bool} {a : Act} {w : World} (hr : Region.ready md ops listed = rs) (hne : rs ≠ [])
    (h : AllU PP md ops Q S u fuel listed a w rs) : wpAnyU PP md ops Q S u (fuel + 1) listed a w :=
  ⟨fun h0 => absurd (hr.symm.trans h0) hne, fun i hi => h i (by rw [← hr]; exact hi)⟩
end
section
variable {PP : Program} {ops : Array Oper} {Q : Exit → Act → World → Prop} {md : Region.Mode} {l n : Nat}
end
end Go.Proofs.YtpnljjcdlkjfhaaGreatDoor
