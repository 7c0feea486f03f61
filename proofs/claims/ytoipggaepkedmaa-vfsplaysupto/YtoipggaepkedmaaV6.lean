/- Own text. Copy of package vfs: another table with the same files. -/
import Derived.Test.YtoipggaepkedmaaV3
namespace Go.Proofs.Ytoipggaepkedmaa
open Go.RowKit Go.Maps
set_option linter.unusedVariables false

theorem off_grow {a b : World} {j : Nat} (h : Off (fun k => k = j) a b) : a.grownBy b (some j) := ⟨h.os, h.tape, h.output, h.size, fun k hk hne => h.block k hk (fun e => hne (by rw [e]))⟩

theorem entry_in {L : Fls} {p b : ByteArray} (hat : ∀ zd, (mapD L).atKey (.string p.data.toList) zd = .lit (.string b.data.toList)) : (p, b) ∈ L := by
  have h1 := Maps.has_true_of_atKey hat
  rw [mapD_has] at h1
  have h2 := hat (.lit (.string []))
  rw [mapD_at] at h2
  have e : getP p L = b := ByteArray.ext (Array.toList_inj.1 (by injection h2 with h3; injection h3))
  unfold getP at e
  split at e
  · rename_i x hx
    have h4 := List.find?_some hx
    have h5 := eqB_iff.1 h4
    have : x = (p, b) := Prod.ext h5 e
    exact this ▸ List.mem_of_find?_eq_some hx
  · rename_i hx
    obtain ⟨x, hm, hx2⟩ := List.any_eq_true.1 h1
    have := List.find?_eq_none.1 hx x hm
    exact absurd hx2 this

theorem key_is {key : Value} {kl : Lit} (h : keyOf Try.prog 9 key = some kl) : ∃ s : ByteArray, key = .string s ∧ kl = .string s.data.toList := by
  obtain ⟨x, rfl, rfl, _⟩ := Maps.keyOf_str Try.underlying9 h
  exact ⟨⟨x.toArray⟩, rfl, by simp⟩

/-- the step of a range over the map. -/
theorem wpList_next_c {w : World} {ops : Array Oper} {rest : List Oper} {o : Oper} {a : Act} {Q : Exit → Act → World → Prop} (hg : o.guard = none) (it : Operand) (hop : o.op = Op.next it false) (mb r : Nat) (L : Fls) (left : Lit → Bool) (cnt : Nat)
    (hit : a.eval it = .pointer (some ⟨r, 0, none⟩)) (h : w.ranges Try.prog 9 cElem mb r L.length (mapD L) left cnt)
    (hDone : cnt = 0 → (∀ kl, left kl = false) → wpList Try.prog ops Q rest (a.put o.dst (.tuple #[.bool false])) w)
    (hMore : ∀ (p b : ByteArray) (w' : World) (cnt' : Nat), (p, b) ∈ L → (∀ zd, (mapD L).atKey (.string p.data.toList) zd = .lit (.string b.data.toList)) → w'.ranges Try.prog 9 cElem mb r L.length (mapD L) (fun z => left z && !z.sameKey (.string p.data.toList)) cnt' → cnt' < cnt →
      w.grownBy w' (some r) → (Instr.entry (.pointer (some ⟨r, 0, none⟩))).run Try.prog w' = .ok (.tuple #[.string p, .agg #[.string b]]) w' → wpList Try.prog ops Q rest (a.put o.dst (.tuple #[.bool true, .string p, .agg #[.string b]])) w') :
    wpList Try.prog ops Q (o :: rest) a w :=
  wpList_next_ranges w hg it hop 9 law cElem Value.string (fun s : ByteArray => .agg #[.string s]) (fun key kl hk => by obtain ⟨s, hs, _⟩ := key_is hk; exact ⟨s, hs⟩) (fun v y hv => by obtain ⟨s, hs, _⟩ := cElem_inv hv; exact ⟨s, hs⟩)
    mb r L.length (mapD L) left cnt hit h hDone (fun p b kl y w' cnt' hkey hlk hv hat hrg hlt hgr hsz hen => by
      obtain ⟨s, hs, rfl⟩ := key_is hkey
      cases hs
      obtain ⟨b', hb, rfl, _⟩ := cElem_inv hv
      have : b = b' := by simpa using hb
      subst this
      exact hMore p b w' cnt' (entry_in hat) hat hrg hlt hgr hen)

set_option maxHeartbeats 4000000 in
set_option maxRecDepth 100000 in
theorem copy_any (w : World) (tb mb : Nat) (L : Fls) (h : Tab w tb mb L) (hL : L.length < 4611686018427387904) :
    Calls Try.prog 22 #[.pointer (some ⟨tb, 0, none⟩)] w fun e w' => e = .returned (.pointer (some ⟨w.heap.size + 1, 0, none⟩)) ∧ Tab w' (w.heap.size + 1) w.heap.size L ∧ Below w.heap.size w w' := by
  have h0 := h.cell
  have hlt := h.ltT
  have hlm := h.ltM
  go_enter Try.func22, Try.ntmps22
  go_wp2_with (first
    | (go_at_call 9; refine (new_any _).mono ?_; rintro e W1 ⟨rfl, T1, b1⟩; have h1 := h.below b1 hlt hlm; have c1 := h1.cell)
    | (at_range; refine wpList_range_own _ rfl _ 52 rfl 9 61 law Try.underlying52 _ mb L.length (mapD L) rfl h1.own ?_; intro w0 hrg0 hg0 hs0)
    | go_in)
  go_frame
  obtain ⟨r, hr⟩ : ∃ r, r = W1.heap.size := ⟨_, rfl⟩
  rw [← hr] at hrg0 ⊢
  have hrl : w.heap.size + 1 < r := by rw [hr]; exact T1.ltT
  have T0 : Tab w0 (w.heap.size + 1) w.heap.size [] := T1.off (S := fun _ => False) (Off.of_grown hg0 (fun j hj => by cases hj)) id id
  have b0 : Below w.heap.size w w0 := b1.trans ((Off.of_grown (S := fun _ => False) hg0 (fun j hj => by cases hj)).below b1.size (fun i hi => hi.elim))
  clear hr hs0
  go_loopw [14] (fun _ wr => ∃ (left : Lit → Bool) (cnt : Nat) (M : Fls), wr.ranges Try.prog 9 cElem mb r L.length (mapD L) left cnt ∧ M.length + cnt ≤ L.length ∧
      Tab wr (w.heap.size + 1) w.heap.size M ∧ Agree (mapD M) (mapD L) left ∧ Below w.heap.size w wr)
    (fun _ wr => wr.rangeLeft mb r)
  case atStart =>
    exact ⟨_, _, [], hrg0, by rw [mapD_size]; simp, T0, agree_start _, b0⟩
  case round =>
    obtain ⟨left, cnt, M, hrg, hcs, hT, hA, hnx⟩ := hrel
    have hTt := hT.ltT
    have hTm := hT.ltM
    go_wp2_with (first
      | (at_next; refine wpList_next_c rfl _ rfl mb r L left cnt rfl hrg ?_ ?_)
      | go_in)
    · intro hc0 hl0
      go_wp2
      go_ret
      have e := mapD_inj (agree_end hA hl0 (hT.own.canon law) (h.own.canon law))
      subst e
      exact ⟨rfl, hT, hnx⟩
    · intro p b w1 cnt1 hin hat hrg1 hlt1 hg1 hen
      obtain ⟨hp, hbs⟩ := h.sz _ hin
      simp only at hp hbs
      have hT1 : Tab w1 (w.heap.size + 1) w.heap.size M := hT.off (S := fun k => k = r) (Off.of_grown hg1 (fun j hj => by cases hj; rfl)) (by omega) (by omega)
      have hnx1 : Below w.heap.size w w1 := belOff (S := fun k => k = r) hnx (Off.of_grown hg1 (fun j hj => by cases hj; rfl)) (by have := hnx.size; omega) (fun i hi => by omega)
      have hT2 : Tab (w1.alloc (.cells #[.string b] 61)) (w.heap.size + 1) w.heap.size M := hT1.alloc _
      have hsw := hnx1.size
      have hx1 := hT1.ltT
      have hx2 := hT1.ltM
      have hcb : (w1.alloc (.cells #[.string b] 61)).cell? ⟨w1.heap.size, 0, none⟩ = some (.string b) := by rw [cell_of_row _ _ 0 _ _ _ (heap_alloc_new w1 _)]; rfl
      have hwx : w1.heap.size < (w1.alloc (.cells #[.string b] 61)).heap.size := by simp
      have hnx2 : Below w.heap.size w (w1.alloc (.cells #[.string b] 61)) := hnx1.alloc hsw _
      have hrg2 : (w1.alloc (.cells #[.string b] 61)).ranges Try.prog 9 cElem mb r L.length (mapD L) (fun z => left z && !z.sameKey (.string p.data.toList)) cnt1 := hrg1.alloc _
      have hst : (w1.alloc (.cells #[.string b] 61)).cell? ⟨w.heap.size + 1, 0, none⟩ = some (.map (some w.heap.size)) ∧ (w1.alloc (.cells #[.string b] 61)).cell? ⟨w1.heap.size, 0, none⟩ = some (.string b) := ⟨hT2.cell, hcb⟩
      go_wp2_with fail
      go_region_held3 (fun W => W.cell? ⟨w.heap.size + 1, 0, none⟩ = some (.map (some w.heap.size)) ∧ W.cell? ⟨w1.heap.size, 0, none⟩ = some (.string b))
        (first | assumption | exact hst | exact hst3)
        (first
          | (go_at_call 29; refine (put_any _ w.heap.size M p b hT2.drew.own hT2.ris (by omega) hp (by omega)).mono ?_; rintro e W3 ⟨rfl, o3, k3⟩; have hT3 := hT2.drew.ins_mk k3 o3 hp hbs; have hst3 : W3.cell? ⟨w.heap.size + 1, 0, none⟩ = some (.map (some w.heap.size)) ∧ W3.cell? ⟨w1.heap.size, 0, none⟩ = some (.string b) := ⟨hT3.cell, (World.cell?_of_block (a := ⟨w1.heap.size, 0, none⟩) (k3.block w1.heap.size hwx (by omega))).trans hcb⟩))
      have hrg3 := hrg2.kept (w' := W3) (row := some w.heap.size) ⟨k3.os, k3.tape, k3.output, k3.size, fun j hj hne => k3.block j hj (fun e => hne (by rw [e]))⟩ (by simp; omega) (by simp; omega)
      have hA3 : Agree (mapD (ins p b M)) (mapD L) (fun z => left z && !z.sameKey (.string p.data.toList)) := by
        have := agree_step hA ⟨_, rfl⟩ (kl := .string p.data.toList) trivial hat
        rw [mapD_put p b hT.ris] at this
        exact this
      have hnx3 : Below w.heap.size w W3 := hnx2.trans ((Off.mk k3.os k3.tape k3.output k3.size (fun j hj hne => k3.block j hj hne) : Off (fun k => k = w.heap.size) (w1.alloc (.cells #[.string b] 61)) W3).below (by simp; omega) (fun i hi => by omega))
      have hln := length_ins_le (p := p) (b := b) (L := M)
      go_wp2
      go_roundw
      case rel => exact ⟨_, cnt1, ins p b M, hrg3, by omega, hT3, hA3, hnx3⟩
      case measure => rw [hrg3.left_eq, hrg.left_eq]; exact hlt1

end Go.Proofs.Ytoipggaepkedmaa
