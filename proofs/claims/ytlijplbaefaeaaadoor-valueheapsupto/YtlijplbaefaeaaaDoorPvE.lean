/- Own text. Package value's heap: keep, kept, drop. -/
import Derived.Test.YtlijplbaefaeaaaDoorPvD
namespace Go.Proofs.YtlijplbaefaeaaaDoor
open Go.RowKit Go.Maps
set_option linter.unusedVariables false
set_option linter.unusedSimpArgs false

def HvT (hb n : Nat) (H : Hp) (T : List Wd) (pv : Value) (V : List Pb) (tv : Value) (S : Nat → Prop) (W : World) : Prop := ∃ C, HvB hb n H T pv V tv C W ∧ ∀ b, S b ↔ Hb hb pv V tv T C b
def HvS (hb n : Nat) (H : Hp) (T : List Wd) (pv : Value) (V : List Pb) (S : Nat → Prop) (W : World) : Prop := ∃ tv, HvT hb n H T pv V tv S W
structure Stp (S : Nat → Prop) (W : World) (S' : Nat → Prop) (W' : World) : Prop where
  k : Kv S W W'
  s : ∀ b, S' b → S b ∨ W.heap.size ≤ b
theorem Stp.refl (S : Nat → Prop) (W : World) : Stp S W S W := ⟨kv_refl, fun b h => .inl h⟩
theorem Stp.trans {S S' S'' : Nat → Prop} {W W' W'' : World} (h : Stp S W S' W') (k : Stp S' W' S'' W'') : Stp S W S'' W'' :=
  ⟨h.k.trans k.k fun i hi q => (h.s i q).elim id (fun w => by omega), fun b q => (k.s b q).elim (h.s b) (fun w => .inr (Nat.le_trans h.k.size w))⟩
theorem Stp.bel {S : Nat → Prop} {W W' : World} (b : Below W.heap.size W W') : Stp S W S W' := ⟨kv_of b, fun b h => .inl h⟩
theorem Kv.mono {M N : Nat → Prop} {W W' : World} (h : Kv M W W') (k : ∀ b, M b → N b) : Kv N W W' := ⟨h.os, h.tape, h.output, h.size, fun b hb nb => h.block b hb (fun q => nb (k b q))⟩
/-- a block of the caller's own goes on. -/
theorem Stp.box {S S' : Nat → Prop} {W W' : World} {q : Nat} {o : Obj} (h : Stp S W S' W') (m : W.heap[q]? = some o) (nq : ¬ S q) : W'.heap[q]? = some o ∧ ¬ S' q := box_kept m nq h.k h.s
section
variable {hb n : Nat} {H : Hp} {T : List Wd} {pv : Value} {V : List Pb} {tv : Value} {S : Nat → Prop} {W W' : World}
theorem HvT.keep (h : HvT hb n H T pv V tv S W) (k : ∀ b, S b → W'.heap[b]? = W.heap[b]?) : HvT hb n H T pv V tv S W' := by
  obtain ⟨C, h, e⟩ := h
  exact ⟨C, h.keep fun b q => k b ((e b).2 q), e⟩
theorem HvT.lt (h : HvT hb n H T pv V tv S W) : ∀ b, S b → b < W.heap.size := by
  obtain ⟨C, h, e⟩ := h
  exact fun b q => h.lt b ((e b).1 q)
theorem HvS.keep (h : HvS hb n H T pv V S W) (k : ∀ b, S b → W'.heap[b]? = W.heap[b]?) : HvS hb n H T pv V S W' := let ⟨tv, h⟩ := h; ⟨tv, h.keep k⟩
theorem HvS.lt (h : HvS hb n H T pv V S W) : ∀ b, S b → b < W.heap.size := let ⟨_, h⟩ := h; h.lt
theorem HvS.bel (h : HvS hb n H T pv V S W) (k : Below W.heap.size W W') : HvS hb n H T pv V S W' := h.keep fun b q => k.block b (h.lt b q)
theorem HvT.bel (h : HvT hb n H T pv V tv S W) (k : Below W.heap.size W W') : HvT hb n H T pv V tv S W' := h.keep fun b q => k.block b (h.lt b q)
theorem HvT.cell (h : HvT hb n H T pv V tv S W) : W.heap[hb]? = some (.cells #[pv, tv] 55 (0, 0)) := let ⟨_, h, _⟩ := h; h.h
theorem HvT.hd (h : HvT hb n H T pv V tv S W) : S hb := let ⟨_, _, e⟩ := h; (e hb).2 .hd
end
theorem map_eql0 (W : World) : (binOp .eql 53 (.map none) (.map none)).run Tryd.prog W = .ok (.bool true) W := by kernel_rfl
theorem map_eql1 (W : World) (r : Nat) : (binOp .eql 53 (.map (some r)) (.map none)).run Tryd.prog W = .ok (.bool false) W := by kernel_rfl
theorem make_t (W : World) : (Instr.makeMap 53 none).run Tryd.prog W = .ok (.map (some W.heap.size)) (W.alloc (.map #[] 0)) := run_makeMap 53 W
def kpL (s : ByteArray) (T : List Wd) : List Wd := if bl s = [] then T else bl s :: T
def keH (hb n : Nat) (H : Hp) (T : List Wd) (pv : Value) (V : List Pb) (S : Nat → Prop) (W : World) (W' : World) : Prop := ∃ S', HvS hb n H T pv V S' W' ∧ Stp S W S' W'
theorem keT_to {hb n : Nat} {H : Hp} {T : List Wd} {pv : Value} {V : List Pb} {mb : Nat} {C : Wd → Nat} {W W' : World} {s : ByteArray} {e : Ending} (h : HvB hb n H T pv V (.map (some mb)) C W) {S : Nat → Prop} (hS : ∀ b, S b ↔ Hb hb pv V (.map (some mb)) T C b) (k : keT mb T C W s e W') :
    e = .returned (.string s) ∧ keH hb n H (bl s :: T) pv V S W W' := by
  obtain ⟨he, C', t, kv, sub⟩ := k
  have hh : ¬ TxB mb T C hb := fun q => by
    rcases h.tx.tg rfl q with ⟨_, w⟩ | w
    · exact w.ne h.hT (by simp) rfl
    · exact w.ne h.hT (by decide) rfl
  refine ⟨he, _, ⟨_, C', h.txs ((kv.block hb (h.lt hb .hd) hh).trans h.h) (.inr ⟨mb, rfl, t⟩) (fun b q nb nt => kv.block b (h.lt b q) (nt mb rfl)) (fun _ e => .inl e), fun b => Iff.rfl⟩, kv.mono fun b q => (hS b).2 (.tx rfl q), ?_⟩
  rintro b (e | e | e | ⟨m', e, q⟩)
  · exact .inl ((hS b).2 (.inl e))
  · exact .inl ((hS b).2 (.inr (.inl e)))
  · exact .inl ((hS b).2 (.inr (.inr (.inl e))))
  · cases e
    exact (sub b q).imp (fun q => (hS b).2 (.tx rfl q)) id
theorem TxV.some {W : World} {mb : Nat} {T : List Wd} {C : Wd → Nat} (h : TxV W (.map (some mb)) T C) : TxA W mb T C := by
  rcases h with ⟨e, _⟩ | ⟨m, e, h⟩
  · cases e
  · cases e; exact h
theorem HvB.make {hb n : Nat} {H : Hp} {T : List Wd} {pv : Value} {V : List Pb} {C : Wd → Nat} {W : World} (h : HvB hb n H T pv V (.map none) C W) : HvB hb n H [] pv V (.map (some W.heap.size)) C ((W.alloc (.map #[] 0)).setCell ⟨hb, 1, none⟩ (.map (some W.heap.size))) := by
  have hl := h.lt hb .hd
  have h1 := hol (w := W) (.map #[] 0) h.h
  refine h.txs (set2b h1 _) (.inr ⟨_, rfl, ⟨?_, fun k hk => by cases hk⟩⟩) (fun b q nb _ => ?_) (fun mb e => by cases e; exact .inr (Nat.le_refl _))
  · exact ((MpF.nil W ptrR).keep (Below.heap_setCell _ _ _ _ (by show W.heap.size ≠ hb; omega))).as fun k => by simp
  · rw [Below.heap_setCell _ _ _ _ nb]
    exact Below.heap_alloc W _ b (h.lt b q)
set_option maxRecDepth 100000 in
set_option maxHeartbeats 4000000 in
theorem hkeep_any {hb n : Nat} {H : Hp} {T : List Wd} {pv : Value} {V : List Pb} {S : Nat → Prop} {W : World} (h : HvS hb n H T pv V S W) (s : ByteArray) (hs : s.size ≤ 140737488355328) (hT : T.length ≤ 70368744177664) :
    Calls Tryd.prog 52 #[.pointer (some ⟨hb, 0, none⟩), .string s] W fun e W' => e = .returned (.string s) ∧ keH hb n H (kpL s T) pv V S W W' := by
  unfold kpL
  by_cases h0 : bl s = []
  · rw [if_pos h0]
    obtain rfl : s = ⟨#[]⟩ := bl_inj h0
    clear h0
    have H0 : Hid (HvS hb n H T pv V S W) := h
    clear h
    go_enter Tryd.func52, Tryd.ntmps52
    go_wp2
    go_ret
    exact ⟨rfl, S, H0.out, .refl _ _⟩
  · rw [if_neg h0]
    have e0 : (s.toList == []) = false := by rw [tl]; simpa [bl] using h0
    clear h0
    obtain ⟨tv, C, h, hS⟩ := h
    obtain ⟨⟨c0, c1⟩, z0, z1⟩ := cellB h.h
    rcases h.tx with ⟨rfl, rfl⟩ | ⟨mb, rfl, ht⟩
    · obtain ⟨W2, hW2⟩ : ∃ X, (W.alloc (.map #[] 0)).setCell ⟨hb, 1, none⟩ (.map (some W.heap.size)) = X := ⟨_, rfl⟩
      have hm := h.make
      have hl := h.lt hb .hd
      have st : Stp S W (fun b => Hb hb pv V (.map (some W.heap.size)) [] C b) W2 := by
        rw [← hW2]
        refine ⟨kv_set (kv_of (belA _ _)) (fun _ => (hS hb).2 .hd), ?_⟩
        rintro b (e | e | e | ⟨m', e, q⟩)
        · exact .inl ((hS b).2 (.inl e))
        · exact .inl ((hS b).2 (.inr (.inl e)))
        · exact .inl ((hS b).2 (.inr (.inr (.inl e))))
        · cases e
          rcases q with rfl | ⟨k, hk, _⟩
          · exact .inr (Nat.le_refl _)
          · cases hk
      have k1 := (cellB (hol (w := W) (.map #[] 0) h.h)).2.2
      have k0 := (cellB (hol (w := W) (.map #[] 0) h.h)).1.1
      rw [hW2] at hm
      have HM : Hid (HvB hb n H [] pv V (.map (some W.heap.size)) C W2) := hm
      have ST : Hid (Stp S W (fun b => Hb hb pv V (.map (some W.heap.size)) [] C b) W2) := st
      have c2 := (cellB hm.h).1.2
      have eq1 : ∀ Y, (binOp .eql 53 (.map none) (.map none)).run Tryd.prog Y = .ok (.bool true) Y := fun Y => map_eql0 Y
      have mk := make_t W
      have HC := tkeep_any HM.out.tx.some s hs (by simp)
      clear hm st h hS
      go_enter Tryd.func52, Tryd.ntmps52
      go_wp2_with fail
      go_at_call 56
      refine HC.mono ?_
      intro e W3 k
      obtain ⟨rfl, S3, h3, s3⟩ := keT_to HM.out (fun b => Iff.rfl) k
      clear k
      have H3 : Hid (keH hb n H [bl s] pv V S W W3) := ⟨S3, h3, ST.out.trans s3⟩
      clear h3 s3
      go_wp2
      go_ret
      exact ⟨rfl, H3.out⟩
    · have H0 : Hid (HvB hb n H T pv V (.map (some mb)) C W) := h
      have HS : Hid (∀ b, S b ↔ Hb hb pv V (.map (some mb)) T C b) := hS
      have HC := tkeep_any ht s hs hT
      have eq1 : ∀ Y, (binOp .eql 53 (.map (some mb)) (.map none)).run Tryd.prog Y = .ok (.bool false) Y := fun Y => map_eql1 Y mb
      clear h hS ht
      go_enter Tryd.func52, Tryd.ntmps52
      go_wp2_with fail
      go_at_call 56
      refine HC.mono ?_
      intro e W3 k
      obtain ⟨rfl, k3⟩ := keT_to H0.out HS.out k
      clear k
      have H3 : Hid (keH hb n H (bl s :: T) pv V S W W3) := k3
      clear k3
      go_wp2
      go_ret
      exact ⟨rfl, H3.out⟩
set_option maxRecDepth 100000 in
set_option maxHeartbeats 4000000 in
theorem kept_any {hb n : Nat} {H : Hp} {T : List Wd} {pv : Value} {V : List Pb} {S : Nat → Prop} {W : World} (h : HvS hb n H T pv V S W) (x : Vl) (hs : x.tx.size ≤ 140737488355328) (hT : T.length ≤ 70368744177664) :
    Calls Tryd.prog 46 #[.pointer (some ⟨hb, 0, none⟩), x.v] W fun e W' => e = .returned x.v ∧ keH hb n H (kpL x.tx T) pv V S W W' := by
  obtain ⟨k, vn, t⟩ := x
  unfold Vl.v
  dsimp only at hs ⊢
  obtain ⟨W0, hW0⟩ : ∃ X, (W.alloc (.cells #[.int .i64 k, .int .i64 vn, .string t] 23)).alloc (.cells #[.int .i64 0, .int .i64 0, .string ⟨#[]⟩] 23) = X := ⟨_, rfl⟩
  have b0 : Below W.heap.size W W0 := by rw [← hW0]; exact belAA _ _ _
  have z0 : W.heap.size + 2 ≤ W0.heap.size := by rw [← hW0]; simp
  have m0 : W0.heap[W.heap.size]? = some (.cells #[.int .i64 k, .int .i64 vn, .string t] 23 (0, 0)) := by rw [← hW0]; exact hol _ (hnw _ rfl)
  have r0 : W0.heap[W.heap.size + 1]? = some (.cells #[.int .i64 0, .int .i64 0, .string ⟨#[]⟩] 23 (0, 0)) := by rw [← hW0]; exact hnw _ (by simp)
  have h0 := h.bel b0
  have n0 : ¬ S W.heap.size := fun q => by have := h.lt _ q; omega
  have n1 : ¬ S (W.heap.size + 1) := fun q => by have := h.lt _ q; omega
  have HC := hkeep_any h0 t hs hT
  obtain ⟨⟨c0, c1, c2⟩, _⟩ := free3 m0
  have M0 : Hid (W0.heap[W.heap.size]? = some (.cells #[.int .i64 k, .int .i64 vn, .string t] 23 (0, 0)) ∧ ¬ S W.heap.size) := ⟨m0, n0⟩
  have R0 : Hid (W0.heap[W.heap.size + 1]? = some (.cells #[.int .i64 0, .int .i64 0, .string ⟨#[]⟩] 23 (0, 0)) ∧ ¬ S (W.heap.size + 1)) := ⟨r0, n1⟩
  have B0 : Hid (Below W.heap.size W W0) := b0
  clear b0 m0 r0 n0 n1 h0 h z0
  go_enter Tryd.func46, Tryd.ntmps46
  go_wp2_with fail
  go_at_call 52
  refine HC.mono ?_
  rintro e W1 ⟨rfl, S1, h1, s1⟩
  clear HC c0 c1 c2 hW0
  obtain ⟨m1, n1⟩ := s1.box M0.out.1 M0.out.2
  obtain ⟨r1, n2⟩ := s1.box R0.out.1 R0.out.2
  obtain ⟨⟨c0, c1, c2⟩, z0, z1, z2⟩ := free3 m1
  obtain ⟨⟨d0, d1, d2⟩, y0, y1, y2⟩ := free3 r1
  have R1 : Hid (W1.heap[W.heap.size + 1]? = some (.cells #[.int .i64 0, .int .i64 0, .string ⟨#[]⟩] 23 (0, 0)) ∧ ¬ S1 (W.heap.size + 1) ∧ ¬ S1 W.heap.size) := ⟨r1, n2, n1⟩
  have H1 : Hid (HvS hb n H (kpL t T) pv V S1 W1) := h1
  have ST : Hid (Stp S W S1 W1) := (Stp.bel B0.out).trans s1
  clear m1 r1 n1 n2 h1 s1
  go_wp2
  refine bodyPost_ret (res_vl Tryd.results46 (set3_same _ _ _ ((Below.heap_setCell _ _ _ _ (by simp)).trans R1.out.1)) rfl) rfl ⟨rfl, S1, H1.out.keep fun b q => ?_, ?_⟩
  · rw [set3_far _ _ _ (fun e => R1.out.2.1 (by have e : b = W.heap.size + 1 := e; exact e ▸ q)), Below.heap_setCell _ _ _ _ (fun e => R1.out.2.2 (by have e : b = W.heap.size := e; exact e ▸ q))]
  · refine ⟨?_, ST.out.s⟩
    have a := fun (i : Nat) (u : Value) (X : World) (q : Kv S W X) => kv_set (b := W.heap.size + 1) (i := i) (v := u) q (fun l => by omega)
    exact a _ _ _ (a _ _ _ (a _ _ _ (kv_set ST.out.k (fun l => by omega))))
theorem hdrop_any {hb n : Nat} {H : Hp} {T : List Wd} {pv : Value} {V : List Pb} {tv : Value} {S : Nat → Prop} {W : World} (h : HvT hb n H T pv V tv S W) (s : ByteArray) (hs : s.size ≤ 140737488355328) (hT : T.length ≤ 70368744177664) :
    Calls Tryd.prog 47 #[tv, .string s] W fun e W' => e = .returned (.tuple #[]) ∧ ∃ S', HvT hb n H (T.erase (bl s)) pv V tv S' W' ∧ Stp S W S' W' := by
  obtain ⟨C, h, hS⟩ := h
  rcases h.tx with ⟨rfl, rfl⟩ | ⟨mb, rfl, ht⟩
  · refine (tdrop_nil s hs W).mono ?_
    rintro e W' ⟨rfl, rfl⟩
    exact ⟨rfl, S, ⟨C, h, hS⟩, .refl _ _⟩
  · refine (tdrop_any ht s hs hT).mono ?_
    rintro e W' ⟨rfl, t, kv⟩
    have hh : ¬ TxB mb T C hb := fun q => by
      rcases h.tx.tg rfl q with ⟨_, w⟩ | w
      · exact w.ne h.hT (by simp) rfl
      · exact w.ne h.hT (by decide) rfl
    refine ⟨rfl, _, ⟨C, h.txs ((kv.block hb (h.lt hb .hd) hh).trans h.h) (.inr ⟨mb, rfl, t⟩) (fun b q nb nt => kv.block b (h.lt b q) (nt mb rfl)) (fun _ e => .inl e), fun b => Iff.rfl⟩, kv.mono fun b q => (hS b).2 (.tx rfl q), ?_⟩
    rintro b (e | e | e | ⟨m', e, q⟩)
    · exact .inl ((hS b).2 (.inl e))
    · exact .inl ((hS b).2 (.inr (.inl e)))
    · exact .inl ((hS b).2 (.inr (.inr (.inl e))))
    · cases e
      refine .inl ((hS b).2 (.tx rfl ?_))
      rcases q with q | ⟨k, hk, q⟩
      · exact .inl q
      · exact .inr ⟨k, List.mem_of_mem_erase hk, q⟩
end Go.Proofs.YtlijplbaefaeaaaDoor
