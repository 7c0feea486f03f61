/- Own text. Load of package vfs: a table with just the files of a list, if they may be. -/
import Derived.Test.YtoipggaepkedmaaV4
namespace Go.Proofs.Ytoipggaepkedmaa
open Go.RowKit Go.Maps
set_option linter.unusedVariables false

theorem ins_last {p b : ByteArray} : ∀ {L : Fls}, (∀ x ∈ L, lessB x.1 p = true) → ins p b L = L ++ [(p, b)]
  | [], _ => rfl
  | x :: r, h => by
    have h1 := h x (by simp)
    have h2 := ins_last (p := p) (b := b) (L := r) (fun y hy => h y (by simp [hy]))
    simp [ins, h1, h2]

theorem Ris.take {L : Fls} (h : Ris L) (k : Nat) : Ris (L.take k) := List.Pairwise.sublist (List.take_sublist k L) h
theorem Ris.below_take {L : Fls} (h : Ris L) (k : Nat) (hk : k < L.length) : ∀ x ∈ L.take k, lessB x.1 L[k].1 = true := by
  intro x hx
  obtain ⟨i, hi, rfl⟩ := List.getElem_of_mem hx
  have hi' : i < k := by simp at hi; omega
  rw [List.getElem_take]
  exact List.pairwise_iff_getElem.1 h i k (by omega) hk hi'

def ldE (F : Fls) : Int := if fitB F then 0 else 21
def ldL (F L : Fls) : Fls := if fitB F then F else L

theorem tab_set {w : World} {tb : Nat} {x u : Value} {t : TypeId} (h : w.heap[tb]? = some (.cells #[x] t)) : (w.setCell ⟨tb, 0, none⟩ u).heap[tb]? = some (.cells #[u] t) := by
  show (w.heap.modify tb _)[tb]? = _
  rw [Array.getElem?_modify, if_pos rfl, h]
  rfl

theorem makeMap_hint (W : World) (n : Int) : (Instr.makeMap 52 (some (.int .i64 n))).run Try.prog W = .ok (.map (some W.heap.size)) (W.alloc (.map #[] 0)) := by
  simp [Instr.makeMap, run_underlying Try.underlying52, asInt, newObj, Result.andThen]
  rfl

set_option maxHeartbeats 4000000 in
set_option maxRecDepth 100000 in
theorem load_any (w : World) (tb mb : Nat) (L F : Fls) (v : Value) (h : Tab w tb mb L) (hf : FAt w v F) (hF : F.length < 4611686018427387904) (hz : ∀ x ∈ F, x.1.size ≤ 281474976710656) :
    Calls Try.prog 17 #[.pointer (some ⟨tb, 0, none⟩), v] w fun e w' => ∃ nb, e = .returned (.int .i64 (ldE F)) ∧ Tab w' tb nb (ldL F L) ∧ (nb = mb ∨ w.heap.size ≤ nb) ∧ Off (fun k => k = tb) w w' := by
  have h0 := h.cell
  have hlt := h.ltT
  have hlm := h.ltM
  cases hfit : fitB F
  · have e1 : ldE F = 21 := by simp [ldE, hfit]
    have e2 : ldL F L = L := by simp [ldL, hfit]
    rw [e1, e2]
    clear e1 e2
    go_enter Try.func17, Try.ntmps17
    go_wp2_with (go_at_call 31; refine (loadable_any _ v F hf hF).mono ?_; rw [hfit]; rintro e W1 ⟨rfl, b1⟩)
    go_ret
    exact ⟨mb, rfl, h.below b1 hlt hlm, .inl rfl, Off.of_below b1⟩
  · have e1 : ldE F = 0 := by simp [ldE, hfit]
    have e2 : ldL F L = F := by simp [ldL, hfit]
    rw [e1, e2]
    clear e1 e2
    have hris := fitB_ris hfit
    have hbs := fitB_size hfit
    have hmm := makeMap_hint
    have hf2 := hf
    rcases hf with ⟨rfl, a, c, rfl⟩ | ⟨bl, of, c, rfl, hc, hbl⟩
    · go_enter Try.func17, Try.ntmps17
      go_wp2_with (go_at_call 31; refine (loadable_any _ _ [] hf2 hF).mono ?_; rw [hfit]; rintro e W1 ⟨rfl, b1⟩)
      have hsz1 := b1.size
      have h1 := h.below b1 hlt hlm
      have c1 := ((Below.refl _ W1).alloc (Nat.le_refl _) (.map #[] 0)).cell (p := ⟨tb, 0, none⟩) h1.ltT |>.trans h1.cell
      have f1 := ((Below.refl _ W1).alloc (Nat.le_refl _) (.map #[] 0)).frozen (p := ⟨tb, 0, none⟩) h1.ltT |>.trans h1.frozen
      go_rounds 1
      go_ret
      refine ⟨W1.heap.size, rfl, ⟨tab_set ((Below.heap_alloc W1 _ tb h1.ltT).trans h1.blk), ?_, by simp [Ris], by simp⟩, .inr hsz1, ?_⟩
      · exact (World.ownsMap_made W1 Try.prog 9 cElem).setCell (a := ⟨tb, 0, none⟩) (by have := h1.ltT; simp; omega) _
      · exact Off.setCell (S := fun k => k = tb) (p := ⟨tb, 0, none⟩) ((Off.of_below b1).alloc _) (.inl rfl) _
    · go_enter Try.func17, Try.ntmps17
      go_wp2_with (go_at_call 31; refine (loadable_any _ _ F hf2 hF).mono ?_; rw [hfit]; rintro e W1 ⟨rfl, b1⟩)
      have hsz1 := b1.size
      have h1 := h.below b1 hlt hlm
      go_loopw [18] (fun i wr => ∃ k : Nat, i = .int .i64 (k : Nat) ∧ k ≤ F.length ∧ wr.ownsMap Try.prog 9 cElem W1.heap.size (F.take k).length (mapD (F.take k)) ∧ Below W1.heap.size W1 wr) (fun i _ => F.length - (intOf i).toNat)
      case atStart => exact ⟨0, rfl, by omega, World.ownsMap_made W1 Try.prog 9 cElem, (Below.refl _ W1).alloc (Nat.le_refl _) _⟩
      case round =>
        obtain ⟨k, rfl, hk, hown, hbw⟩ := hrel
        have hsw := hown.lt
        by_cases hkl : k < F.length
        · obtain ⟨c1, c2⟩ := hc k hkl
          rw [← b1.cell hbl, ← hbw.cell (by simp; omega)] at c1 c2
          have hzz := hz F[k] (List.getElem_mem hkl)
          have hbb := hbs F[k] (List.getElem_mem hkl)
          have HA : Hid (ins F[k].1 F[k].2 (F.take k) = F.take (k + 1)) := by
            rw [ins_last (hris.below_take k hkl), List.take_succ_eq_append_getElem hkl]
            trivial
          have hrk := hris.take k
          have htl : (F.take k).length = k := by simp; omega
          generalize F[k] = x at *
          obtain ⟨p, b⟩ := x
          simp only at c1 c2 hzz hbb HA
          go_wp2_with (go_at_call 29; refine (put_any _ W1.heap.size (F.take k) p b (hown.alloc _) hrk (by omega) hzz (by omega)).mono ?_; rintro e W2 ⟨rfl, o2, k2⟩)
          have hfin : W2.ownsMap Try.prog 9 cElem W1.heap.size (F.take (k + 1)).length (mapD (F.take (k + 1))) := by rw [HA.out] at o2; exact o2
          have hfb : Below W1.heap.size W1 W2 := belOff (hbw.alloc (by omega) _) k2 (by simp; omega) (fun i hi => by omega)
          clear o2 k2 hown
          go_roundw
          case rel => exact ⟨k + 1, by simp, by omega, hfin, hfb⟩
          case measure => simp [intOf]; omega
        · have e : k = F.length := by omega
          rw [e, List.take_length] at hown
          have h2 := h1.below hbw h1.ltT h1.ltM
          have c2 := h2.cell
          have f2 := h2.frozen
          have hne : W1.heap.size ≠ tb := by have := h1.ltT; omega
          have hfo : Off (fun k => k = tb) w wr := (Off.of_below b1).andThen (T := fun i => W1.heap.size ≤ i) ⟨hbw.os, hbw.tape, hbw.output, hbw.size, fun i _ hi => hbw.block i (by omega)⟩ (fun i hi => .inr (by omega))
          clear e hk
          go_wp2
          go_ret
          exact ⟨W1.heap.size, rfl, ⟨tab_set h2.blk, hown.setCell (a := ⟨tb, 0, none⟩) hne _, hris, fun x hx => ⟨hz x hx, hbs x hx⟩⟩, .inr hsz1, Off.setCell (p := ⟨tb, 0, none⟩) hfo (.inl rfl) _⟩

end Go.Proofs.Ytoipggaepkedmaa
