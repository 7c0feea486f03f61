/- Own text. The document's next token: signs, and all together. -/
import Derived.Test.YtadkmlcnmkdfiaaGreatDoorXB
import Derived.Deep.RegionHeld3
import Derived.BigQuiet
namespace Go.Proofs.YtadkmlcnmkdfiaaGreatDoor
open Go.RowKit
set_option linter.unusedVariables false

theorem same_row {w w' : World} {base : Nat} {e : TypeId} {size : Nat} {v : Value} {n : Nat} {xs : List Value} (h : w.ownsRow base e size v n xs) (hh : w'.heap = w.heap) : w'.ownsRow base e size v n xs := by
  unfold World.ownsRow at *
  rw [hh]
  exact h
theorem row_eq {W : World} {n m : Nat} {e : TypeId} {k c : Nat} {xs : List Value} (ho : W.ownsRow n e 1 (.slice (some ⟨n, 0, none⟩) k c) k xs) (h : n = m) : W.ownsRow m e 1 (.slice (some ⟨m, 0, none⟩) k c) k xs := h ▸ ho
theorem heap_at {W W' : World} {n : Nat} {o : Obj} (h : W'.heap = W.heap) (hb : W.heap[n]? = some o) : W'.heap[n]? = some o := by rw [h]; exact hb
theorem drewN_below4 (w : World) (n : Nat) : Below w.heap.size w (w.drewN n) := ⟨rfl, rfl, rfl, Nat.le_refl _, fun _ _ => rfl⟩

set_option maxHeartbeats 2000000 in
set_option maxRecDepth 100000 in
theorem next_sign (s : ByteArray) (sc : Bool) (w : World) (hs : s.size ≤ 140737488351232) (hp : 0 < s.size) (hn : nameL s.data.toList sc = 0) (hd : digC (atL s.data.toList 0) = false) (hq : ¬ (atL s.data.toList 0 = 34 ∨ atL s.data.toList 0 = 39)) : Calls Tryz.prog 65 #[.string s, .bool sc] w fun e w' =>
    nextRes (signNx s.data.toList) e ∧ Below w.heap.size w w' := by
  have hname := fun W => name_any s sc W (by omega)
  rw [hn] at hname
  have hd1 := fun W => rdigit_any (atL s.data.toList 0) W
  rw [hd] at hd1
  have hby := byteI s 0 hp
  have b34 : (((s[0].toNat : Nat) : Int) == 34) = false := int_eqb (by rw [hby]; omega)
  have b39 : (((s[0].toNat : Nat) : Int) == 39) = false := int_eqb (by rw [hby]; omega)
  have hl28 : signsL.length = 28 := rfl
  clear hn hd hq
  have hby2 : ((s[0].toNat : Nat) : Int) = ((atL s.data.toList 0 : Nat) : Int) := hby
  rw [← hby] at hd1
  clear hby hby2
  go_enter Tryz.func65, Tryz.ntmps65
  go_wp2_with (first
    | (go_at_call 97; refine (hname _).mono ?_; rintro e W ⟨rfl, rfl⟩)
    | (go_at_call 99; refine (hd1 _).mono ?_; rintro e W ⟨rfl, rfl⟩)
    | (go_at_call 102; refine (signs_any _).mono ?_; rintro e W1 ⟨rfl, ho, hb1⟩))
  have hblk := four_new hb1
  have hbw : Below w.heap.size w W1 := ((Below.refl _ w).alloc (Nat.le_refl _) _).trans (hb1.mono (by simp))
  have ho := row_eq (m := w.heap.size + 1) ho (by simp)
  go_loopw [15] (fun v15 W => ∃ k : Nat, v15 = .int .i64 k ∧ k ≤ 28 ∧ Hid (W.heap = W1.heap) ∧ Below w.heap.size w W ∧ Hid (∀ g ∈ signsL.take k, g.isPrefixOf s.data.toList = false)) (fun v15 _ => 28 - (intOf v15).toNat)
  case atStart => exact ⟨0, rfl, by omega, rfl, hbw, by intro g hg; simp at hg⟩
  case round =>
    obtain ⟨k, rfl, hk, hh, hb, hl⟩ := hrel
    by_cases hkl : k < 28
    · have hk2 : (k : Int) < 28 := by omega
      obtain ⟨g, hg⟩ : ∃ g, signsL[k]? = some g := ⟨_, List.getElem?_eq_getElem (by rw [hl28]; exact hkl)⟩
      have hc := text_at (same_row ho hh.out) hg hkl
      have hpx := sign_at (l := s.data.toList) (g := g)
      rw [← Lib.size_eq] at hpx
      obtain ⟨G, hG⟩ : ∃ G : ByteArray, G = ⟨g.toArray⟩ := ⟨_, rfl⟩
      have hGl : G.data.toList = g := by rw [hG]
      have hGs : G.size = g.length := by rw [Lib.size_eq, hGl]
      rw [← hG] at hc
      have hcut := cut_list s G.size
      have heq : ((s.extract 0 G.size).toList == G.toList) = (s.data.toList.take g.length == g) := by
        rw [Lib.toList_data, Lib.toList_data, hcut, hGl, hGs]
      have HG : Hid (signsL[k]? = some g ∧ G = ⟨g.toArray⟩ ∧ G.size = g.length) := ⟨hg, hG, hGs⟩
      rw [← hGs] at hpx
      rw [hGs] at hpx
      clear hg hGl hcut
      cases hpre : g.isPrefixOf s.data.toList
      · have hl2 : Hid (∀ x ∈ signsL.take (k + 1), x.isPrefixOf s.data.toList = false) := by
          intro x hx
          rw [List.take_add_one, HG.out.1] at hx
          rcases List.mem_append.1 hx with hx | hx
          · exact hl.out x hx
          · rw [show x = g from by simpa using hx]; exact hpre
        rw [hpre] at hpx
        by_cases hle : g.length ≤ s.size
        · have e1 : ((s.extract 0 G.size).toList == G.toList) = false := by
            rw [heq]
            rw [decide_eq_true hle, Bool.true_and] at hpx
            exact hpx.symm
          have d1 : decide ((G.size : Int) ≤ (s.size : Int)) = true := decide_eq_true (by omega)
          have d2 : (G.size : Int) ≤ (s.size : Int) := by omega
          clear hpx heq hG hGs hl hpre
          go_wp2
          go_quiet (fail)
          go_wp2
          go_roundw
          case rel => exact ⟨k + 1, by simp, by omega, hh, hb.trans ((drewN_below4 _ _).mono hb.size), hl2⟩
          case measure => simp [intOf]; omega
        · have d1 : decide ((G.size : Int) ≤ (s.size : Int)) = false := decide_eq_false (by omega)
          have d3 : decide (G.size ≤ s.size) = false := decide_eq_false (by omega)
          clear hle
          clear hpx heq hG hGs hl hpre
          go_wp2
          go_quiet (fail)
          go_wp2
          go_roundw
          case rel => exact ⟨k + 1, by simp, by omega, hh, hb.trans ((drewN_below4 _ _).mono hb.size), hl2⟩
          case measure => simp [intOf]; omega
      · have HF : Hid (signNx s.data.toList = .ok ((5, g, 0), g.length)) := by
          show _ = _
          unfold signNx
          rw [find_step HG.out.1 hl.out hpre]
        rw [hpre] at hpx
        have hle : g.length ≤ s.size := by
          by_cases h : g.length ≤ s.size
          · exact h
          · rw [decide_eq_false h] at hpx; cases hpx
        have e1 : ((s.extract 0 G.size).toList == G.toList) = true := by
          rw [heq]
          rw [decide_eq_true hle, Bool.true_and] at hpx
          exact hpx.symm
        have d1 : decide ((G.size : Int) ≤ (s.size : Int)) = true := decide_eq_true (by omega)
        have d2 : (G.size : Int) ≤ (s.size : Int) := by omega
        have hblk2 := heap_at hh.out hblk
        obtain ⟨⟨c0, c1, c2, c3⟩, f0, f1, f2, f3⟩ := four_of hblk2
        clear hpx heq hG hGs hl hpre
        go_wp2
        go_quiet (fail)
        go_wp2
        go_region
        go_wp2
        refine bodyPost_ret (next_res (four_set (heap_at (W' := World.drewN wr _) rfl hblk2)) rfl) rfl ⟨?_, four_below (hb.trans ((drewN_below4 _ _).mono hb.size)) (Nat.le_refl _)⟩
        rw [HF.out]
        show _ = _
        simp only [tokV, ← HG.out.2.1, ← HG.out.2.2]
        rfl
    · have hk2 : ¬ (k : Int) < 28 := by omega
      have HF : Hid (signNx s.data.toList = .error 40) := by
        have h1 := hl.out
        rw [List.take_of_length_le (by rw [hl28]; omega)] at h1
        show _ = _
        unfold signNx
        rw [find_none h1]
      have hblk2 := heap_at hh.out hblk
      obtain ⟨⟨c0, c1, c2, c3⟩, f0, f1, f2, f3⟩ := four_of hblk2
      clear hl
      go_wp2
      refine bodyPost_ret (next_res (four_set hblk2) rfl) rfl ⟨?_, four_below hb (Nat.le_refl _)⟩
      rw [HF.out]
      exact ⟨(0, [], 0), rfl⟩

theorem next_any (s : ByteArray) (sc : Bool) (w : World) (hs : s.size ≤ 140737488351232) (hp : 0 < s.size) : Calls Tryz.prog 65 #[.string s, .bool sc] w fun e w' =>
    nextRes (nextL s.data.toList sc) e ∧ Below w.heap.size w w' := by
  unfold nextL
  by_cases h1 : 0 < nameL s.data.toList sc
  · rw [if_pos h1]
    exact next_name s sc w hs h1
  · rw [if_neg h1]
    have h0 : nameL s.data.toList sc = 0 := by omega
    cases h2 : digC (atL s.data.toList 0)
    · rw [if_neg (by simp)]
      by_cases h3 : atL s.data.toList 0 = 34 ∨ atL s.data.toList 0 = 39
      · rw [if_pos h3]; exact next_text s sc w hs hp h0 h2 h3
      · rw [if_neg h3]; exact next_sign s sc w hs hp h0 h2 h3
    · rw [if_pos rfl]; exact next_num s sc w hs hp h0 h2

end Go.Proofs.YtadkmlcnmkdfiaaGreatDoor
