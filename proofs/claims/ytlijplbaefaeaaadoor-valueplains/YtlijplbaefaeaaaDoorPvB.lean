/- Own text. Package value: the texts of a heap, each kept once (keep, drop). -/
import Derived.Test.YtlijplbaefaeaaaDoorPvA
import Derived.Test.YtlijplbaefaeaaaDoorVa2
import Derived.Test.YtlijplbaefaeaaaDoorVa4
import Derived.Test.YtlijplbaefaeaaaDoorVb3
import Derived.Test.YtlijplbaefaeaaaDoorShelf
import Derived.Laws.Rows
namespace Go.Proofs.YtlijplbaefaeaaaDoor
open Go.RowKit Go.Maps
set_option linter.unusedVariables false
set_option linter.unusedSimpArgs false

theorem clone_any (s : ByteArray) (w : World) (hs : s.size ≤ 281474976710656) : Calls Tryd.prog 27 #[.string s] w fun e w' => e = .returned (.string s) ∧ Below w.heap.size w w' := by
  go_enter Tryd.func27, Tryd.ntmps27
  go_wp2_with (go_at_call 48; refine (Tryd.stringslite_Clone s _ hs).mono ?_; rintro e w' ⟨rfl, hb⟩)
  go_ret
  exact ⟨rfl, hb⟩
abbrev Wd := List UInt8
/-- the texts in memory: each with how often it stands. -/
structure TxA (W : World) (mb : Nat) (T : List Wd) (C : Wd → Nat) : Prop where
  m : MpF W ptrR mb (fun k => if k ∈ T then some (pD (C k)) else none)
  c : ∀ k ∈ T, W.heap[C k]? = some (.cells #[.string (bt k), .int .i64 (T.count k : Nat)] 82 (0, 0))
def ctC (k : Wd) (n : Int) : Obj := .cells #[.string (bt k), .int .i64 n] 82 (0, 0)
theorem bt_inj {a b : Wd} (h : bt a = bt b) : a = b := by rw [← bl_bt a, ← bl_bt b, h]
theorem TxA.ne {W : World} {mb : Nat} {T : List Wd} {C : Wd → Nat} (h : TxA W mb T C) {k : Wd} (hk : k ∈ T) : C k ≠ mb := fun e => by
  obtain ⟨es, c, q⟩ := h.m.map
  have := h.c k hk
  rw [e, q] at this
  injection this with this
  cases this
theorem TxA.inj {W : World} {mb : Nat} {T : List Wd} {C : Wd → Nat} (h : TxA W mb T C) {k j : Wd} (hk : k ∈ T) (hj : j ∈ T) (e : C k = C j) : k = j := by
  have a := h.c k hk
  have b := h.c j hj
  rw [e, b] at a
  injection a with a
  injection a with a
  have := congrArg (fun x : Array Value => x[0]?) a
  simp at this
  exact (bt_inj this).symm
theorem TxA.keep {W W' : World} {mb : Nat} {T : List Wd} {C : Wd → Nat} (h : TxA W mb T C) (e : W'.heap[mb]? = W.heap[mb]?) (f : ∀ k ∈ T, W'.heap[C k]? = W.heap[C k]?) : TxA W' mb T C := ⟨h.m.keep e, fun k hk => (f k hk).trans (h.c k hk)⟩
theorem TxA.as {W : World} {mb : Nat} {T T' : List Wd} {C : Wd → Nat} (h : TxA W mb T C) (e : ∀ k, T.count k = T'.count k) : TxA W mb T' C := by
  have em : ∀ k, k ∈ T ↔ k ∈ T' := fun k => by rw [← List.count_pos_iff, ← List.count_pos_iff, e k]
  exact ⟨h.m.as fun k => by simp only [em k], fun k hk => by rw [← e k]; exact h.c k ((em k).2 hk)⟩
theorem cellB {W : World} {b : Nat} {u v : Value} {t : TypeId} (h : W.heap[b]? = some (.cells #[u, v] t (0, 0))) : (W.cell? ⟨b, 0, none⟩ = some u ∧ W.cell? ⟨b, 1, none⟩ = some v) ∧ (W.frozen? ⟨b, 0, none⟩ = false ∧ W.frozen? ⟨b, 1, none⟩ = false) := by simp [World.cell?, World.frozen?, h]
theorem set2b {W : World} {b : Nat} {u v : Value} {t : TypeId} (h : W.heap[b]? = some (.cells #[u, v] t (0, 0))) (x : Value) : (W.setCell ⟨b, 1, none⟩ x).heap[b]? = some (.cells #[u, x] t (0, 0)) := by
  rw [heap_setCell_same W b 1 _ t x h]
  simp
theorem TxA.bump {W : World} {mb : Nat} {T : List Wd} {C : Wd → Nat} (h : TxA W mb T C) {k : Wd} (hk : k ∈ T) : TxA (W.setCell ⟨C k, 1, none⟩ (.int .i64 ((T.count k : Nat) + 1))) mb (k :: T) C := by
  refine ⟨(h.m.keep (Below.heap_setCell _ _ _ _ (h.ne hk).symm)).as fun j => ?_, fun j hj => ?_⟩
  · by_cases q : j = k
    · subst q
      simp [hk]
    · simp [q]
  · by_cases q : j = k
    · subst q
      rw [set2b (h.c j hk)]
      simp
    · have hj' : j ∈ T := by simpa [q] using hj
      rw [Below.heap_setCell _ _ _ _ (fun e => q (h.inj hj' hk e)), h.c j hj']
      rw [List.count_cons_of_ne (fun e => q e.symm)]
theorem TxA.add {W W3 : World} {mb : Nat} {T : List Wd} {C : Wd → Nat} (h : TxA W mb T C) {k : Wd} (hk : k ∉ T) {c : Nat} (hm : MpF W3 ptrR mb (updF (fun k => if k ∈ T then some (pD (C k)) else none) k (pD c))) (hc : W3.heap[c]? = some (.cells #[.string (bt k), .int .i64 1] 82 (0, 0))) (f : ∀ j ∈ T, W3.heap[C j]? = W.heap[C j]?) :
    TxA W3 mb (k :: T) (fun j => if j = k then c else C j) := by
  refine ⟨hm.as fun j => ?_, fun j hj => ?_⟩
  · unfold updF
    by_cases q : j = k <;> simp [q]
  · by_cases q : j = k
    · subst q
      simp only [if_pos]
      rw [hc, List.count_cons_self, List.count_eq_zero_of_not_mem hk]
      rfl
    · have hj' : j ∈ T := by simpa [q] using hj
      simp only [if_neg q]
      rw [f j hj', h.c j hj', List.count_cons_of_ne (fun e => q e.symm)]
theorem TxA.dec {W : World} {mb : Nat} {T : List Wd} {C : Wd → Nat} (h : TxA W mb T C) {k : Wd} (hk : 1 < T.count k) : TxA (W.setCell ⟨C k, 1, none⟩ (.int .i64 ((T.count k : Nat) - 1))) mb (T.erase k) C := by
  have k0 : k ∈ T := List.count_pos_iff.1 (by omega)
  refine ⟨(h.m.keep (Below.heap_setCell _ _ _ _ (h.ne k0).symm)).as fun j => ?_, fun j hj => ?_⟩
  · by_cases q : j = k
    · subst q
      have : j ∈ T.erase j := List.count_pos_iff.1 (by rw [List.count_erase_self]; omega)
      simp [k0, this]
    · simp [List.mem_erase_of_ne q]
  · by_cases q : j = k
    · subst q
      rw [set2b (h.c j k0), List.count_erase_self]
      rw [show ((T.count j : Nat) : Int) - 1 = ((T.count j - 1 : Nat) : Int) by omega]
    · have hj' : j ∈ T := (List.mem_erase_of_ne q).1 hj
      rw [Below.heap_setCell _ _ _ _ (fun e => q (h.inj hj' k0 e)), h.c j hj', List.count_erase_of_ne (fun e => q e)]
theorem TxA.del {W W3 : World} {mb : Nat} {T : List Wd} {C : Wd → Nat} (h : TxA W mb T C) {k : Wd} (hk : T.count k = 1) (hm : MpF W3 ptrR mb (delF (fun k => if k ∈ T then some (pD (C k)) else none) k)) (f : ∀ j ∈ T, j ≠ k → W3.heap[C j]? = W.heap[C j]?) : TxA W3 mb (T.erase k) C := by
  refine ⟨hm.as fun j => ?_, fun j hj => ?_⟩
  · unfold delF
    by_cases q : j = k
    · subst q
      have : j ∉ T.erase j := fun e => by
        have := List.count_pos_iff.2 e
        rw [List.count_erase_self] at this
        omega
      simp [this]
    · simp [q, List.mem_erase_of_ne q]
  · have q : j ≠ k := fun e => by
      subst e
      have := List.count_pos_iff.2 hj
      rw [List.count_erase_self] at this
      omega
    have hj' : j ∈ T := (List.mem_erase_of_ne q).1 hj
    rw [f j hj' q, h.c j hj', List.count_erase_of_ne (fun e => q e)]
/-- the blocks of the texts. -/
def TxB (mb : Nat) (T : List Wd) (C : Wd → Nat) (b : Nat) : Prop := b = mb ∨ ∃ k ∈ T, C k = b
theorem TxA.lt {W : World} {mb : Nat} {T : List Wd} {C : Wd → Nat} (h : TxA W mb T C) : ∀ b, TxB mb T C b → b < W.heap.size := by
  rintro b (rfl | ⟨k, hk, rfl⟩)
  · exact h.m.lt
  · exact glt (h.c k hk)
theorem zeroP (w : World) : (zeroValue 80).run Tryd.prog w = .ok (.pointer none) w := by kernel_rfl
theorem TxA.look {W : World} {mb : Nat} {T : List Wd} {C : Wd → Nat} (h : TxA W mb T C) {s : ByteArray} (hs : s.size ≤ 281474976710656) : (Instr.lookup 53 (.map (some mb)) (.string s) false).run Tryd.prog W = .ok (if bl s ∈ T then .pointer (some ⟨C (bl s), 0, none⟩) else .pointer none) W := by
  obtain ⟨v, ps, hr, hv⟩ := h.m.look Tryd.underlying53 (zeroP W) (zd := .lit (.int .i64 (-1))) (zp := []) rfl hs
  by_cases q : bl s ∈ T
  · rw [if_pos q] at hv ⊢
    rw [hr, ptrR_inv hv]
  · rw [if_neg q] at hv ⊢
    rw [hr, ptrR_nil hv]
def keT (mb : Nat) (T : List Wd) (C : Wd → Nat) (W : World) (s : ByteArray) (e : Ending) (W' : World) : Prop := e = .returned (.string s) ∧ ∃ C', TxA W' mb (bl s :: T) C' ∧ Kv (TxB mb T C) W W' ∧ ∀ b, TxB mb (bl s :: T) C' b → TxB mb T C b ∨ W.heap.size ≤ b
theorem kv_set {M : Nat → Prop} {W X : World} {b i : Nat} {v : Value} (k : Kv M W X) (h : b < W.heap.size → M b) : Kv M W (X.setCell ⟨b, i, none⟩ v) :=
  ⟨k.os, k.tape, k.output, by simpa [World.setCell] using k.size, fun j hj nj => (Below.heap_setCell _ _ _ _ (fun e => nj (by subst e; exact h hj))).trans (k.block j hj nj)⟩
theorem kv_refl {M : Nat → Prop} {W : World} : Kv M W W := ⟨rfl, rfl, rfl, Nat.le_refl _, fun _ _ _ => rfl⟩
theorem kv_of {M : Nat → Prop} {a b : World} (h : Below a.heap.size a b) : Kv M a b := ⟨h.os, h.tape, h.output, h.size, fun k hk _ => h.block k hk⟩
theorem kv_turn {M : Nat → Prop} {W X Y : World} {b : Nat} (k : Kv M W X) (h : b < W.heap.size → M b) (t : X.mapTurned Y b) : Kv M W Y := by
  have g := t.grown
  exact ⟨g.os.trans k.os, g.tape.trans k.tape, g.output.trans k.output, Nat.le_trans k.size g.size, fun j hj nj => (g.block j (Nat.lt_of_lt_of_le hj k.size) (fun e => nj (by injection e with e; subst e; exact h hj))).trans (k.block j hj nj)⟩
theorem turn_at {X Y : World} {b k : Nat} (t : X.mapTurned Y b) (h : k < X.heap.size) (ne : k ≠ b) : Y.heap[k]? = X.heap[k]? := t.grown.block k h (fun e => ne (by injection e))
set_option maxRecDepth 100000 in
set_option maxHeartbeats 4000000 in
theorem tkeep_any {W : World} {mb : Nat} {T : List Wd} {C : Wd → Nat} (h : TxA W mb T C) (s : ByteArray) (hs : s.size ≤ 140737488355328) (hT : T.length ≤ 70368744177664) :
    Calls Tryd.prog 56 #[.map (some mb), .string s] W (keT mb T C W s) := by
  have hlk := h.look (s := s) (by omega)
  by_cases q : bl s ∈ T
  · rw [if_pos q] at hlk
    have hc := h.c _ q
    rw [bt_bl] at hc
    obtain ⟨⟨c0, c1⟩, z0, z1⟩ := cellB hc
    have hn : T.count (bl s) ≤ 70368744177664 := Nat.le_trans List.count_le_length hT
    have HB : Hid (TxA (W.setCell ⟨C (bl s), 1, none⟩ (.int .i64 ((T.count (bl s) : Nat) + 1))) mb (bl s :: T) C) := h.bump q
    have HC : Hid (W.heap[C (bl s)]? = some (.cells #[.string s, .int .i64 (T.count (bl s) : Nat)] 82 (0, 0))) := hc
    have HQ : Hid (C (bl s) = C (bl s) ∧ bl s ∈ T) := ⟨rfl, q⟩
    clear hc q hT h
    generalize hnn : T.count (bl s) = n at *
    have HN : Hid (T.count (bl s) = n) := hnn
    clear hnn
    generalize hcc : C (bl s) = c at *
    have HCC : Hid (C (bl s) = c) := hcc
    clear hcc
    have z2 : (W.setCell ⟨c, 1, none⟩ (.int .i64 ((n : Nat) + 1))).cell? ⟨c, 0, none⟩ = some (.string s) := (cellB (set2b HC.out _)).1.1
    go_enter Tryd.func56, Tryd.ntmps56
    go_wp2
    go_ret
    refine ⟨rfl, C, HB.out, kv_set kv_refl (fun _ => .inr ⟨_, HQ.out.2, HCC.out⟩), ?_⟩
    rintro b (e | ⟨k, hk, e⟩)
    · exact .inl (.inl e)
    · rcases List.mem_cons.1 hk with rfl | hk
      · exact .inl (.inr ⟨_, HQ.out.2, e⟩)
      · exact .inl (.inr ⟨k, hk, e⟩)
  · rw [if_neg q] at hlk
    have H0 : Hid (TxA W mb T C) := h
    have HQ : Hid (bl s ∉ T) := q
    clear h q
    go_enter Tryd.func56, Tryd.ntmps56
    go_wp2_with fail
    go_at_call 27
    refine (clone_any s _ (by omega)).mono ?_
    rintro e W1 ⟨rfl, b1⟩
    have B1 : Hid (Below W.heap.size W W1) := b1
    clear b1 hlk
    obtain ⟨W2, hW2⟩ : ∃ X, W1.alloc (.cells #[.string s, .int .i64 0] 82) = X := ⟨_, rfl⟩
    have b2 : Below W.heap.size W W2 := by rw [← hW2]; exact B1.out.alloc B1.out.size _
    have m2 : W2.heap[W1.heap.size]? = some (.cells #[.string s, .int .i64 0] 82 (0, 0)) := by rw [← hW2]; exact hnw _ rfl
    have hmb := H0.out.lt mb (.inl rfl)
    obtain ⟨W3, hrun, r1, r2⟩ := (H0.out.m.keep (b2.block mb hmb)).store Tryd.underlying53 (T := T) (fun k hk => by
      by_cases w : k ∈ T
      · exact w
      · rw [if_neg w] at hk; cases hk) (by omega) (s := s) (by omega) (val := .pointer (some ⟨W1.heap.size, 0, none⟩)) (ptrR_mk _)
    have nem : W1.heap.size ≠ mb := by have := B1.out.size; omega
    have m3 := (turn_at r2 (glt m2) nem).trans m2
    obtain ⟨⟨c0, c1⟩, z0, z1⟩ := cellB m2
    obtain ⟨⟨d0, d1⟩, y0, y1⟩ := cellB m3
    have B2 : Hid (Below W.heap.size W W2) := b2
    have M3 : Hid (W3.heap[W1.heap.size]? = some (.cells #[.string s, .int .i64 0] 82 (0, 0))) := m3
    have R1 : Hid (MpF W3 ptrR mb (updF (fun k => if k ∈ T then some (pD (C k)) else none) (bl s) (pD W1.heap.size))) := r1
    have R2 : Hid (W2.mapTurned W3 mb) := r2
    clear b2 m2 m3 r1 r2
    have z2 : (W3.setCell ⟨W1.heap.size, 1, none⟩ (.int .i64 1)).cell? ⟨W1.heap.size, 0, none⟩ = some (.string s) := (cellB (set2b M3.out _)).1.1
    go_wp2
    go_ret
    have hlt := H0.out.lt
    have b1 := B1.out
    have e3 : (W3.setCell ⟨W1.heap.size, 1, none⟩ (.int .i64 1)).heap[W1.heap.size]? = some (.cells #[.string (bt (bl s)), .int .i64 1] 82 (0, 0)) := by rw [bt_bl]; exact set2b M3.out _
    have f3 : ∀ j ∈ T, (W3.setCell ⟨W1.heap.size, 1, none⟩ (.int .i64 1)).heap[C j]? = W.heap[C j]? := fun j hj => by
      have l := hlt (C j) (.inr ⟨j, hj, rfl⟩)
      rw [Below.heap_setCell _ _ _ _ (fun e => by have e : C j = W1.heap.size := e; have := b1.size; omega), turn_at R2.out (Nat.lt_of_lt_of_le l B2.out.size) (H0.out.ne hj)]
      exact B2.out.block _ l
    refine ⟨rfl, _, H0.out.add HQ.out (R1.out.keep (Below.heap_setCell _ _ _ _ nem.symm)) e3 f3, kv_set (kv_turn (kv_of B2.out) (fun _ => .inl rfl) R2.out) (fun q => by have := b1.size; omega), ?_⟩
    rintro b (e | ⟨k, hk, e⟩)
    · exact .inl (.inl e)
    · by_cases w : k = bl s
      · simp only [if_pos w] at e
        exact .inr (by rw [← e]; exact b1.size)
      · simp only [if_neg w] at e
        exact .inl (.inr ⟨k, by simpa [w] using hk, e⟩)
def drT (mb : Nat) (T : List Wd) (C : Wd → Nat) (W : World) (s : ByteArray) (e : Ending) (W' : World) : Prop := e = .returned (.tuple #[]) ∧ TxA W' mb (T.erase (bl s)) C ∧ Kv (TxB mb T C) W W'
set_option maxRecDepth 100000 in
set_option maxHeartbeats 4000000 in
theorem tdrop_any {W : World} {mb : Nat} {T : List Wd} {C : Wd → Nat} (h : TxA W mb T C) (s : ByteArray) (hs : s.size ≤ 140737488355328) (hT : T.length ≤ 70368744177664) :
    Calls Tryd.prog 47 #[.map (some mb), .string s] W (drT mb T C W s) := by
  have hlk := h.look (s := s) (by omega)
  by_cases q : bl s ∈ T
  · rw [if_pos q] at hlk
    have hc := h.c _ q
    rw [bt_bl] at hc
    obtain ⟨⟨c0, c1⟩, z0, z1⟩ := cellB hc
    have hn : T.count (bl s) ≤ 70368744177664 := Nat.le_trans List.count_le_length hT
    have hp : 0 < T.count (bl s) := List.count_pos_iff.2 q
    have HD : Hid (1 < T.count (bl s) → TxA (W.setCell ⟨C (bl s), 1, none⟩ (.int .i64 ((T.count (bl s) : Nat) - 1))) mb (T.erase (bl s)) C) := h.dec
    have HQ : Hid (C (bl s) = C (bl s) ∧ bl s ∈ T) := ⟨rfl, q⟩
    have H0 : Hid (TxA W mb T C) := h
    have HC : Hid (W.heap[C (bl s)]? = some (.cells #[.string s, .int .i64 (T.count (bl s) : Nat)] 82 (0, 0))) := hc
    clear hc q hT h
    generalize hnn : T.count (bl s) = n at *
    have HN : Hid (T.count (bl s) = n) := hnn
    clear hnn
    generalize hcc : C (bl s) = c at *
    have HCC : Hid (C (bl s) = c) := hcc
    clear hcc
    have hz := set2b HC.out (.int .i64 ((n : Nat) - 1))
    have z2 := (cellB hz).1.2
    clear hz
    have K2 : Hid (Kv (TxB mb T C) W (W.setCell ⟨c, 1, none⟩ (.int .i64 ((n : Nat) - 1)))) := kv_set kv_refl (fun _ => .inr ⟨_, HQ.out.2, HCC.out⟩)
    by_cases one : n = 1
    · have HO : Hid (n = 1) := one
      have e0 : (((n : Nat) : Int) - 1 == 0) = true := by rw [one]; rfl
      obtain ⟨W3, hrun, r1, r2⟩ := (H0.out.m.keep (w' := W.setCell ⟨c, 1, none⟩ (.int .i64 ((n : Nat) - 1))) (Below.heap_setCell _ _ _ _ (fun e => H0.out.ne HQ.out.2 (HCC.out.trans (Eq.symm e))))).drop Tryd.underlying53 (s := s) (by omega) 0
      have R1 : Hid (MpF W3 ptrR mb (delF (fun k => if k ∈ T then some (pD (C k)) else none) (bl s))) := r1
      have R2 : Hid ((W.setCell ⟨c, 1, none⟩ (.int .i64 ((n : Nat) - 1))).mapTurned W3 mb) := r2
      clear r1 r2 one
      go_enter Tryd.func47, Tryd.ntmps47
      go_wp2
      first
        | go_end0
        | refine bodyPost_ret (results_none rfl _ _ _) rfl ?_
      refine ⟨rfl, H0.out.del (by rw [HN.out]; exact HO.out) R1.out (fun j hj ne => ?_), kv_turn K2.out (fun _ => .inl rfl) R2.out⟩
      have l := H0.out.lt (C j) (.inr ⟨j, hj, rfl⟩)
      rw [turn_at R2.out (by simpa [World.setCell] using l) (H0.out.ne hj)]
      exact Below.heap_setCell _ _ _ _ (fun e => ne (H0.out.inj hj HQ.out.2 (e.trans HCC.out.symm)))
    · have e0 : (((n : Nat) : Int) - 1 == 0) = false := by simp; omega
      have HD2 : Hid (TxA (W.setCell ⟨c, 1, none⟩ (.int .i64 ((n : Nat) - 1))) mb (T.erase (bl s)) C) := HD.out (by omega)
      clear one HD
      go_enter Tryd.func47, Tryd.ntmps47
      go_wp2
      first
        | go_end0
        | refine bodyPost_ret (results_none rfl _ _ _) rfl ?_
      exact ⟨rfl, HD2.out, K2.out⟩
  · rw [if_neg q] at hlk
    have H0 : Hid (TxA W mb T C) := h
    have HQ : Hid (bl s ∉ T) := q
    clear h q
    go_enter Tryd.func47, Tryd.ntmps47
    go_wp2
    first
      | go_end0
      | refine bodyPost_ret (results_none rfl _ _ _) rfl ?_
    refine ⟨rfl, by rw [List.erase_of_not_mem HQ.out]; exact H0.out, kv_refl⟩
theorem tdrop_nil (s : ByteArray) (hs : s.size ≤ 140737488355328) (W : World) : Calls Tryd.prog 47 #[.map none, .string s] W fun e W' => e = .returned (.tuple #[]) ∧ W' = W := by
  have hlk := Maps.look_nil (P := Tryd.prog) (w := W) (t := 53) false lawK Tryd.underlying53 (zeroP W) (keyK (s := s) (by omega))
  rw [if_neg (by decide)] at hlk
  go_enter Tryd.func47, Tryd.ntmps47
  go_wp2
  first
    | go_end0
    | refine bodyPost_ret (results_none rfl _ _ _) rfl ?_
  exact ⟨rfl, rfl⟩
end Go.Proofs.YtlijplbaefaeaaaDoor
