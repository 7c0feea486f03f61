/- Own text. Files of package vfs: the files, by rising paths, in a list of its own. -/
import Derived.Test.YtoipggaepkedmaaV2
import Derived.Test.YtoipggaepkedmaaIter
import Derived.Deep.RegionHeld3
import Derived.Deep.AppendLies
import Derived.Deep.DrawnRows
namespace Go.Proofs.Ytoipggaepkedmaa
open Go.RowKit Go.Maps
set_option linter.unusedVariables false

theorem info_file : (Try.prog.info? 44).map (fun i => (i.zero, i.size, i.bytes)) = some (some (.agg #[.string ByteArray.empty, .string ByteArray.empty]), 2, 32) := by kernel_rfl

theorem keys_any (mb : Nat) (W : World) : Calls Try.prog 27 #[.map (some mb)] W fun e w' => e = .returned (.func (.func 35) #[] #[.pointer (some ⟨W.heap.size, 0, none⟩)]) ∧ w' = W.alloc (.cells #[.map (some mb)] 52) :=
  callsIn_wide.1 (Try.maps_Keys_27 (some mb) W)

/-- the paths, in a row of their own. -/
theorem sorted_any (mb : Nat) (L : Fls) (w : World) (hown : w.ownsMap Try.prog 9 cElem mb L.length (mapD L)) (hr : Ris L) (hb : L.length * 32 ≤ 140737488355328) :
    Calls Try.prog 26 #[.func (.func 35) #[] #[.pointer (some ⟨w.heap.size, 0, none⟩)]] (w.alloc (.cells #[.map (some mb)] 52)) fun e w' =>
      ∃ v, e = .returned v ∧ w'.ownsRow (w.heap.size + 1) 9 1 v L.length (L.map fun x => Value.string x.1) ∧ Below w.heap.size w w' := by
  refine (callsIn_wide.1 (Try.slices_Sorted_keys_26_27 mb L.length (mapD L) cElem w hown (by rw [mapD_size]; unfold maxLen; omega) (by rw [mapD_size]; omega))).mono ?_
  rintro e w' ⟨v, ss, rfl, hS, hrow, hnil, hbel⟩
  rw [sorted_keys hr hS] at hrow
  have hl : ss.length = L.length := by
    rw [hS.length_eq, mapD_keys]; simp
  rw [hl] at hrow
  refine ⟨v, rfl, by simpa using hrow, ((Below.refl _ w).alloc (Nat.le_refl _) _).trans (hbel.mono (by simp))⟩

/-- what holds of the world while one file is laid behind the others. -/
theorem laySt {w2 W : World} {B tb mb : Nat} {L : Fls} {p : ByteArray} (hT : Tab W tb mb L) (hB : Below B w2 W) (hp : p.size ≤ 281474976710656) :
    W.cell? ⟨tb, 0, none⟩ = some (.map (some mb)) ∧ (Instr.lookup 52 (.map (some mb)) (.string p) false).run Try.prog W = .ok (.agg #[.string (getP p L)]) W ∧ Tab W tb mb L ∧ Below B w2 W :=
  ⟨hT.cell, look_run hT.own hp, hT, hB⟩
theorem Tab.drew {w : World} {tb mb : Nat} {L : Fls} (h : Tab w tb mb L) : Tab w.drew tb mb L := ⟨h.blk, h.own, h.ris, h.sz⟩
theorem Tab.alloc {w : World} {tb mb : Nat} {L : Fls} (h : Tab w tb mb L) (o : Obj) : Tab (w.alloc o) tb mb L := h.off (Off.alloc (S := fun _ => False) (Off.refl _ w) o) id id

theorem getP_nth {L : Fls} (h : Ris L) (i : Nat) (hi : i < L.length) : getP L[i].1 L = L[i].2 := by
  have key : L.find? (fun x => eqB x.1 L[i].1) = some L[i] := by
    rw [List.find?_eq_some_iff_getElem]
    refine ⟨eqB_self _, i, hi, rfl, fun j hj => ?_⟩
    have := List.pairwise_iff_getElem.1 h j i (by omega) hi hj
    simp [eqB_ne (lessB_ne this)]
  unfold getP
  rw [key]

theorem field_content (W : World) (b : ByteArray) : (Instr.field 61 (.agg #[.string b]) 0).run Try.prog W = .ok (.string b) W := by kernel_rfl

theorem row_below {w w' : World} {base : Nat} {e : TypeId} {size : Nat} {v : Value} {n : Nat} {xs : List Value} (h : w.ownsRow base e size v n xs) (hb : Below w.heap.size w w') : w'.ownsRow base e size v n xs := h.kept (below_grow hb) (by
  cases hv : v.ownBlock
  · exact .inl rfl
  · exact .inr (by simp))

theorem files_none (w : World) (tb mb : Nat) (h : Tab w tb mb []) :
    Calls Try.prog 13 #[.pointer (some ⟨tb, 0, none⟩)] w fun e w' => ∃ v, e = .returned v ∧ w'.ownsRow w.heap.size 44 2 v 0 [] ∧ Below w.heap.size w w' := by
  have h0 := h.cell
  go_enter Try.func13, Try.ntmps13
  go_wp2_with (first
    | (go_at_call 27; refine (keys_any mb _).mono ?_; rintro e w' ⟨rfl, rfl⟩)
    | (go_at_call 26; refine (sorted_any mb [] w h.own h.ris (by simp)).mono ?_; rintro e w2 ⟨v, rfl, hrow, hbel⟩; obtain ⟨av, cv, rfl⟩ : ∃ a c, v = .slice a 0 c := (by
        rcases hrow.2 with ⟨rfl, e0⟩ | ⟨g, cap, cur, rfl, _⟩
        · exact ⟨none, 0, rfl⟩
        · exact ⟨_, _, rfl⟩)))
  go_rounds 1
  go_ret
  exact ⟨_, rfl, World.ownsRow_nil _ _ _ _, hbel⟩

set_option maxHeartbeats 4000000 in
set_option maxRecDepth 100000 in
theorem files_some (w : World) (tb mb : Nat) (L : Fls) (h : Tab w tb mb L) (hb : L.length * 32 ≤ 140737488355328) (hne : 0 < L.length) :
    Calls Try.prog 13 #[.pointer (some ⟨tb, 0, none⟩)] w fun e w' => ∃ v, e = .returned v ∧ w'.ownsRow w.heap.size 44 2 v L.length (flat L) ∧ Below w.heap.size w w' := by
  have h0 := h.cell
  have hlt := h.ltT
  have hlm := h.ltM
  obtain ⟨i0, hi0, hz0, hz1, hz2⟩ := info_parts info_file
  go_enter Try.func13, Try.ntmps13
  go_wp2_with (first
    | (go_at_call 27; refine (keys_any mb _).mono ?_; rintro e w' ⟨rfl, rfl⟩)
    | (go_at_call 26; refine (sorted_any mb L w h.own h.ris hb).mono ?_; rintro e w2 ⟨v, rfl, hrow, hbel⟩; obtain ⟨g, cv, rfl, hcell, hgl⟩ : ∃ g c, v = .slice (some ⟨g, 0, none⟩) L.length c ∧ (∀ i (hi : i < L.length), w2.cell? ⟨g, i, none⟩ = some (.string L[i].1)) ∧ g < w2.heap.size := (by
        rcases hrow.2 with ⟨rfl, e0⟩ | ⟨g, cap, cur, rfl, _, hg, _, _, hcs, htk⟩
        · omega
        · refine ⟨g, cap, rfl, fun i hi => ?_, (Array.getElem?_eq_some_iff.1 hg).1⟩
          rw [cell_of_row w2 g i _ _ _ hg]
          have e1 : (cur.toList.take (L.length * 1))[i]? = cur[i]? := by rw [List.getElem?_take_of_lt (by omega)]; simp
          rw [← e1, htk]
          simp [hi])))
  go_loopw [3, 15] (fun v i wr => ∃ k : Nat, i = .int .i64 (k : Nat) ∧ k ≤ L.length ∧ wr.ownsRow w2.heap.size 44 2 v k (flat (L.take k)) ∧ Below w2.heap.size w2 wr) (fun _ i _ => L.length - (intOf i).toNat)
  case atStart => exact ⟨0, rfl, by omega, World.ownsRow_nil _ _ _ _, Below.refl _ _⟩
  case round =>
    obtain ⟨k, rfl, hk, hown, hbw⟩ := hrel
    have hsw := hbw.size
    by_cases hkl : k < L.length
    · have hc := hcell k hkl
      have hcw : wr.cell? ⟨g, k, none⟩ = some (.string L[k].1) := (hbw.cell hgl).trans hc
      have hT : Tab wr tb mb L := (h.below hbel hlt hlm).below hbw (by have := hbel.size; omega) (by have := hbel.size; omega)
      have hsz := h.sz L[k] (List.getElem_mem hkl)
      have hgp := getP_nth h.ris k hkl
      have HA : Hid (flat (L.take (k + 1)) = flat (L.take k) ++ [.string L[k].1, .string L[k].2]) := by
        rw [List.take_succ_eq_append_getElem hkl, flat_append]
        rfl
      generalize L[k] = x at *
      obtain ⟨p, b⟩ := x
      simp only at hc hcw hsz hgp HA
      have hstart := laySt hT hbw hsz.1
      rw [hgp] at hstart
      have tok1 : True := trivial
      have hfld := fun W => field_content W b
      go_wp2_with fail
      go_region_held3 (fun W => W.cell? ⟨tb, 0, none⟩ = some (.map (some mb)) ∧ (Instr.lookup 52 (.map (some mb)) (.string p) false).run Try.prog W = .ok (.agg #[.string b]) W ∧ Tab W tb mb L ∧ Below w2.heap.size w2 W)
        (first | assumption | exact hgp ▸ laySt hT.drew hbw.drew hsz.1 | exact hgp ▸ laySt hT1 hB1 hsz.1 | exact hgp ▸ laySt hT2 hB2 hsz.1 | exact hgp ▸ laySt (hT2.alloc _) (hB2.alloc hl2 _) hsz.1 | exact hgp ▸ laySt hT3 hB3 hsz.1)
        (first
          | (go_at_call 28; have _t := tok1; refine (clone_any p _ hsz.1).mono ?_; rintro e W1 ⟨rfl, b1⟩; have hT1 := hT.drew.below b1 hT.ltT hT.ltM; have hB1 := hbw.drew.trans (b1.mono hsw); have ho1 := row_below hown.drew b1; have hl1 := Nat.le_trans hsw b1.size; clear tok1)
          | (go_at_call 28; refine (clone_any b _ (Nat.le_trans hsz.2 (by decide))).mono ?_; rintro e W2 ⟨rfl, b2⟩; have hT2 := hT1.below b2 hT1.ltT hT1.ltM; have hB2 := hB1.trans (b2.mono hl1); have ho2 := row_below ho1 b2; have hl2 := Nat.le_trans hl1 b2.size)
          | (refine step_append_lies _ (by rfl) _ _ _ (by rfl) w2.heap.size 44 i0 _ 2 32 Try.underlying26 hi0 hz0 hz1 hz2 rfl (by omega) _ k (flat (L.take k)) (by rfl) (ho2.alloc _) ⟨W2.heap.size, 0, none⟩ 1 1 [.string p, .string b] (by rfl) (by rfl) (World.news_of_block (cs := #[.string p, .string b]) (t := 44) (fr := (0, 0)) (heap_alloc_new W2 _)) (by simp [Value.oneCell']) (by omega) (by unfold maxLen; omega) (by omega) (by simp; omega) (W2.heap.size + 1) (by simp) ?_; intro gg cap W3 hown3 hgrow hat hlt3; have hB3 := (hB2.alloc hl2 _).grown hgrow (by simp; omega) (fun j hj => (ho2.lt j hj).1); have hT3 : Tab W3 tb mb L := (h.below hbel hlt hlm).below hB3 (by have := hbel.size; omega) (by have := hbel.size; omega)))
      all_goals
        clear hstart hfld hgp hT hc hcw
        have hfin : W3.ownsRow w2.heap.size 44 2 (.slice (some ⟨gg, 0, none⟩) (k + 1) cap) (k + 1) (flat (L.take (k + 1))) := by rw [HA.out]; exact hown3
        go_wp2
        go_roundw
        case rel => exact ⟨k + 1, by simp, by omega, hfin, hB3⟩
        case measure => simp [intOf]; omega
    · have e : k = L.length := by omega
      have hfin : wr.ownsRow w.heap.size 44 2 u3 L.length (flat L) := by
        rw [e, List.take_length] at hown
        have := hbel.size
        refine ⟨hown.1, ?_⟩
        rcases hown.2 with h1 | ⟨g', cap, cur, h1, h2, h3⟩
        · exact .inl h1
        · exact .inr ⟨g', cap, cur, h1, by omega, h3⟩
      have hfb : Below w.heap.size w wr := hbel.trans (hbw.mono hbel.size)
      clear hown e
      go_wp2
      go_ret
      exact ⟨_, rfl, hfin, hfb⟩

theorem files_any (w : World) (tb mb : Nat) (L : Fls) (h : Tab w tb mb L) (hb : L.length * 32 ≤ 140737488355328) :
    Calls Try.prog 13 #[.pointer (some ⟨tb, 0, none⟩)] w fun e w' => ∃ v, e = .returned v ∧ w'.ownsRow w.heap.size 44 2 v L.length (flat L) ∧ Below w.heap.size w w' := by
  cases L with
  | nil => exact files_none w tb mb h
  | cons x r => exact files_some w tb mb _ h hb (by simp)

end Go.Proofs.Ytoipggaepkedmaa
