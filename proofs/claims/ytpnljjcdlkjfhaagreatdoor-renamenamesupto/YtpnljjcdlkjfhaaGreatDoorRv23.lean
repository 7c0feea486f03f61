/- Own text. The document's next token. The document's next token: numbers, texts. The document's next token: signs, and all together. -/
import Derived.Test.YtpnljjcdlkjfhaaGreatDoorRv19
import Derived.Test.YtpnljjcdlkjfhaaGreatDoorRv22
import Derived.Deep.RegionHeld3
import Derived.BigQuiet
namespace Go.Proofs.YtpnljjcdlkjfhaaGreatDoor
open Go.RowKit
set_option linter.unusedVariables false

def tokV (t : Tk) (a : Int) : Value := .agg #[.int .i64 t.1, .string ⟨t.2.1.toArray⟩, .int .i64 t.2.2, .int .i64 a]

theorem four_of {W1 : World} {n : Nat} {a b c d : Value} {t : TypeId} (hb : W1.heap[n]? = some (.cells #[a, b, c, d] t)) :
    (W1.cell? ⟨n, 0, none⟩ = some a ∧ W1.cell? ⟨n, 1, none⟩ = some b ∧ W1.cell? ⟨n, 2, none⟩ = some c ∧ W1.cell? ⟨n, 3, none⟩ = some d) ∧
    (W1.frozen? ⟨n, 0, none⟩ = false ∧ W1.frozen? ⟨n, 1, none⟩ = false ∧ W1.frozen? ⟨n, 2, none⟩ = false ∧ W1.frozen? ⟨n, 3, none⟩ = false) := by
  refine ⟨⟨?_, ?_, ?_, ?_⟩, ?_, ?_, ?_, ?_⟩
  · rw [cell_of_row W1 _ 0 _ _ _ hb]; rfl
  · rw [cell_of_row W1 _ 1 _ _ _ hb]; rfl
  · rw [cell_of_row W1 _ 2 _ _ _ hb]; rfl
  · rw [cell_of_row W1 _ 3 _ _ _ hb]; rfl
  · exact frozen_of_row W1 _ 0 _ _ hb
  · exact frozen_of_row W1 _ 1 _ _ hb
  · exact frozen_of_row W1 _ 2 _ _ hb
  · exact frozen_of_row W1 _ 3 _ _ hb
theorem four_set {W : World} {n : Nat} {a b c d x y z u : Value} {t : TypeId} (hb : W.heap[n]? = some (.cells #[a, b, c, d] t)) :
    ((((W.setCell ⟨n, 0, none⟩ x).setCell ⟨n, 1, none⟩ y).setCell ⟨n, 2, none⟩ z).setCell ⟨n, 3, none⟩ u).heap[n]? = some (.cells #[x, y, z, u] t) := by
  have h1 := heap_setCell_same W n 0 _ t x hb
  have h2 := heap_setCell_same _ n 1 _ t y h1
  have h3 := heap_setCell_same _ n 2 _ t z h2
  have h4 := heap_setCell_same _ n 3 _ t u h3
  exact h4
theorem four_below {B : Nat} {w W : World} {n : Nat} {x y z u : Value} (hb : Below B w W) (hn : B ≤ n) : Below B w ((((W.setCell ⟨n, 0, none⟩ x).setCell ⟨n, 1, none⟩ y).setCell ⟨n, 2, none⟩ z).setCell ⟨n, 3, none⟩ u) :=
  (((hb.setCell hn _).setCell hn _).setCell hn _).setCell hn _
/-- what next hands back. -/
theorem next_res {W : World} {n : Nat} {a b c d : Value} {tmps : Array Value} (hb : W.heap[n]? = some (.cells #[a, b, c, d] 215)) (ht : tmps[4]?.getD undef = .pointer (some ⟨n, 0, none⟩)) :
    (results Tryz.f186 tmps).run Tryz.prog W = .ok (.tuple #[.agg #[a, b, c, d], tmps.getD 5 undef, tmps.getD 6 undef]) W := by
  obtain ⟨⟨c0, c1, c2, c3⟩, _⟩ := four_of hb
  simp [results, Tryz.results186, go_sem, ht, c0, c1, c2, c3]

theorem four_new {w W1 : World} {o : Obj} (hb : Below (w.alloc o).heap.size (w.alloc o) W1) : W1.heap[w.heap.size]? = some o := by
  rw [hb.block _ (by simp)]
  exact heap_alloc_new w o
theorem cut_list (s : ByteArray) (k : Nat) : s.extract 0 k = ⟨(s.data.toList.take k).toArray⟩ := by
  apply ByteArray.ext
  apply Array.toList_inj.1
  rw [ByteArray.data_extract, Array.toList_extract, List.extract_eq_take_drop]
  simp

set_option maxHeartbeats 4000000 in
set_option maxRecDepth 100000 in
theorem next_name (s : ByteArray) (sc : Bool) (w : World) (hs : s.size ≤ 140737488351232) (hn : 0 < nameL s.data.toList sc) : Calls Tryz.prog 186 #[.string s, .bool sc] w fun e w' =>
    e = .returned (.tuple #[tokV ((if wordB (s.data.toList.take (nameL s.data.toList sc)) then 2 else 1), s.data.toList.take (nameL s.data.toList sc), 0) 0, .int .i64 (nameL s.data.toList sc : Nat), .int .i64 0]) ∧ Below w.heap.size w w' := by
  have hname := fun W => name_any s sc W (by omega)
  have hle := nameL_le s.data.toList sc
  rw [← Lib.size_eq] at hle
  have hcl := cut_list s (nameL s.data.toList sc)
  generalize nameL s.data.toList sc = k at *
  have hk2 : (0 : Int) < (k : Int) := by omega
  have hk3 : (k : Int) ≤ (s.size : Int) := by omega
  have hword := fun W => word_any (s.extract 0 k) W
  have hxl : (s.extract 0 k).data.toList = s.data.toList.take k := by rw [hcl]
  rw [hxl] at hword
  have HX : Hid (s.extract 0 k = ⟨(s.data.toList.take k).toArray⟩) := hcl
  clear hcl
  cases hwd : wordB (s.data.toList.take k)
  · rw [hwd] at hword
    go_enter Tryz.func186, Tryz.ntmps186
    go_wp2_with (first
      | (go_at_call 213; refine (hname _).mono ?_; rintro e W ⟨rfl, rfl⟩)
      | (go_at_call 214; refine (hword _).mono ?_; rintro e W1 ⟨rfl, hb1⟩; obtain ⟨⟨c0, c1, c2, c3⟩, f0, f1, f2, f3⟩ := four_of (four_new hb1)))
    refine bodyPost_ret (next_res (four_set (four_new hb1)) rfl) rfl ⟨?_, ?_⟩
    · simp only [tokV, HX.out]; rfl
    · exact four_below (((Below.refl _ w).alloc (Nat.le_refl _) _).trans (hb1.mono (by simp))) (Nat.le_refl _)
  · rw [hwd] at hword
    go_enter Tryz.func186, Tryz.ntmps186
    go_wp2_with (first
      | (go_at_call 213; refine (hname _).mono ?_; rintro e W ⟨rfl, rfl⟩)
      | (go_at_call 214; refine (hword _).mono ?_; rintro e W1 ⟨rfl, hb1⟩; obtain ⟨⟨c0, c1, c2, c3⟩, f0, f1, f2, f3⟩ := four_of (four_new hb1)))
    refine bodyPost_ret (next_res (four_set (four_new hb1)) rfl) rfl ⟨?_, ?_⟩
    · simp only [tokV, HX.out]; rfl
    · exact four_below (((Below.refl _ w).alloc (Nat.le_refl _) _).trans (hb1.mono (by simp))) (Nat.le_refl _)
end Go.Proofs.YtpnljjcdlkjfhaaGreatDoor
namespace Go.Proofs.YtpnljjcdlkjfhaaGreatDoor
open Go.RowKit
set_option linter.unusedVariables false

def nextRes (n : Nx) (e : Ending) : Prop := match n with
  | .ok x => e = .returned (.tuple #[tokV x.1 0, .int .i64 (x.2 : Nat), .int .i64 0])
  | .error c => ∃ t : Tk, e = .returned (.tuple #[tokV t 0, .int .i64 0, .int .i64 (c : Nat)])

set_option maxHeartbeats 4000000 in
set_option maxRecDepth 100000 in
theorem next_num (s : ByteArray) (sc : Bool) (w : World) (hs : s.size ≤ 140737488351232) (hp : 0 < s.size) (hn : nameL s.data.toList sc = 0) (hd : digC (atL s.data.toList 0) = true) : Calls Tryz.prog 186 #[.string s, .bool sc] w fun e w' =>
    nextRes (numbL s.data.toList sc) e ∧ Below w.heap.size w w' := by
  have hname := fun W => name_any s sc W (by omega)
  rw [hn] at hname
  have hnum := fun W => number_any4 s sc W (by omega)
  have hd1 := fun W => rdigit_any (atL s.data.toList 0) W
  rw [hd] at hd1
  have hby := byteI s 0 hp
  clear hn hd
  generalize atL s.data.toList 0 = c at *
  cases hx : numbL s.data.toList sc with
  | error e0 =>
    rw [hx] at hnum
    simp only [numbRes] at hnum
    clear hx
    go_enter Tryz.func186, Tryz.ntmps186
    go_wp2_with (first
      | (go_at_call 213; refine (hname _).mono ?_; rintro e W ⟨rfl, rfl⟩)
      | (go_at_call 215; refine (hd1 _).mono ?_; rintro e W ⟨rfl, rfl⟩)
      | (go_at_call 216; refine (hnum _).mono ?_; rintro e W ⟨rfl, rfl⟩))
    exact bodyPost_ret (next_res (heap_alloc_new _ _) rfl) rfl ⟨⟨(3, [], 0), rfl⟩, (Below.refl _ w).alloc (Nat.le_refl _) _⟩
  | ok x =>
    rw [hx] at hnum
    simp only [numbRes] at hnum
    have HX : Hid (x.1 = (3, [], x.1.2.2)) := by
      unfold numbL at hx
      split at hx
      · cases hx
      · split at hx
        · cases hx
        · cases hx; rfl
    clear hx
    go_enter Tryz.func186, Tryz.ntmps186
    go_wp2_with (first
      | (go_at_call 213; refine (hname _).mono ?_; rintro e W ⟨rfl, rfl⟩)
      | (go_at_call 215; refine (hd1 _).mono ?_; rintro e W ⟨rfl, rfl⟩)
      | (go_at_call 216; refine (hnum _).mono ?_; rintro e W ⟨rfl, rfl⟩))
    refine bodyPost_ret (next_res (heap_alloc_new _ _) rfl) rfl ⟨?_, (Below.refl _ w).alloc (Nat.le_refl _) _⟩
    show _ = _
    rw [HX.out]
    rfl

set_option maxHeartbeats 4000000 in
set_option maxRecDepth 100000 in
theorem next_text (s : ByteArray) (sc : Bool) (w : World) (hs : s.size ≤ 140737488351232) (hp : 0 < s.size) (hn : nameL s.data.toList sc = 0) (hd : digC (atL s.data.toList 0) = false) (hq : atL s.data.toList 0 = 34 ∨ atL s.data.toList 0 = 39) : Calls Tryz.prog 186 #[.string s, .bool sc] w fun e w' =>
    nextRes (unqNx s.data.toList) e ∧ Below w.heap.size w w' := by
  have hname := fun W => name_any s sc W (by omega)
  rw [hn] at hname
  have hunq := fun W => refUnquote_any s W hs
  have hd1 := fun W => rdigit_any (atL s.data.toList 0) W
  rw [hd] at hd1
  have hby := byteI s 0 hp
  clear hn hd
  cases hx : unquoteL s.data.toList with
  | none =>
    have HN : Hid (unqNx s.data.toList = .error 40) := by show _ = _; unfold unqNx; rw [hx]
    rw [hx] at hunq
    simp only [unqRes] at hunq
    clear hx
    rcases hq with hq | hq
    all_goals
      rw [hq] at hby hd1
      clear hq
      go_enter Tryz.func186, Tryz.ntmps186
      go_wp2_with (first
        | (go_at_call 213; refine (hname _).mono ?_; rintro e W ⟨rfl, rfl⟩)
        | (go_at_call 215; refine (hd1 _).mono ?_; rintro e W ⟨rfl, rfl⟩)
        | (go_at_call 217; refine (hunq _).mono ?_; rintro e W1 ⟨rfl, hb1⟩; obtain ⟨⟨c0, c1, c2, c3⟩, f0, f1, f2, f3⟩ := four_of (four_new hb1)))
      refine bodyPost_ret (next_res (four_set (four_new hb1)) rfl) rfl ⟨by rw [HN.out]; exact ⟨(0, [], 0), rfl⟩, ?_⟩
      exact four_below (((Below.refl _ w).alloc (Nat.le_refl _) _).trans (hb1.mono (by simp))) (Nat.le_refl _)
  | some x =>
    have HN : Hid (unqNx s.data.toList = .ok ((4, x.1, 0), x.2)) := by show _ = _; unfold unqNx; rw [hx]
    rw [hx] at hunq
    simp only [unqRes] at hunq
    clear hx
    rcases hq with hq | hq
    all_goals
      rw [hq] at hby hd1
      clear hq
      go_enter Tryz.func186, Tryz.ntmps186
      go_wp2_with (first
        | (go_at_call 213; refine (hname _).mono ?_; rintro e W ⟨rfl, rfl⟩)
        | (go_at_call 215; refine (hd1 _).mono ?_; rintro e W ⟨rfl, rfl⟩)
        | (go_at_call 217; refine (hunq _).mono ?_; rintro e W1 ⟨rfl, hb1⟩; obtain ⟨⟨c0, c1, c2, c3⟩, f0, f1, f2, f3⟩ := four_of (four_new hb1)))
      refine bodyPost_ret (next_res (four_set (four_new hb1)) rfl) rfl ⟨by rw [HN.out]; rfl, ?_⟩
      exact four_below (((Below.refl _ w).alloc (Nat.le_refl _) _).trans (hb1.mono (by simp))) (Nat.le_refl _)

theorem sign_at {l : Bs} {g : Bs} : g.isPrefixOf l = (decide (g.length ≤ l.length) && (l.take g.length == g)) := by
  rw [Bool.eq_iff_iff, List.isPrefixOf_iff_prefix]
  simp only [Bool.and_eq_true, decide_eq_true_eq, beq_iff_eq]
  constructor
  · rintro ⟨t, ht⟩
    rw [← ht]
    simp
  · rintro ⟨h1, h2⟩
    exact ⟨l.drop g.length, by conv => lhs; lhs; rw [← h2]
                               exact List.take_append_drop _ _⟩
theorem find_step {α : Type} {p : α → Bool} {l : List α} {k : Nat} {x : α} (hk : l[k]? = some x) (h : ∀ y ∈ l.take k, p y = false) (hx : p x = true) : l.find? p = some x := by
  induction l generalizing k with
  | nil => simp at hk
  | cons y r ih =>
    cases k with
    | zero =>
      have : y = x := by simpa using hk
      subst this
      simp [hx]
    | succ k =>
      have h0 := h y (by simp)
      simp only [List.find?_cons, h0]
      exact ih (by simpa using hk) (fun z hz => h z (by simp [hz]))
theorem find_none {α : Type} {p : α → Bool} {l : List α} (h : ∀ y ∈ l, p y = false) : l.find? p = none := by
  rw [List.find?_eq_none]
  intro y hy
  simp [h y hy]

end Go.Proofs.YtpnljjcdlkjfhaaGreatDoor
set_option linter.unusedVariables false
namespace Go.Proofs.YtpnljjcdlkjfhaaGreatDoor
open Go.RowKit
theorem same_row {w w' : World} {base : Nat} {e : TypeId} {size : Nat} {v : Value} {n : Nat} {xs : List Value} (h : w.ownsRow base e size v n xs) (hh : w'.heap = w.heap) : w'.ownsRow base e size v n xs := by
  unfold World.ownsRow at *
  rw [hh]
  exact h
theorem row_eq {W : World} {n m : Nat} {e : TypeId} {k c : Nat} {xs : List Value} (ho : W.ownsRow n e 1 (.slice (some ⟨n, 0, none⟩) k c) k xs) (h : n = m) : W.ownsRow m e 1 (.slice (some ⟨m, 0, none⟩) k c) k xs := h ▸ ho
theorem heap_at {W W' : World} {n : Nat} {o : Obj} (h : W'.heap = W.heap) (hb : W.heap[n]? = some o) : W'.heap[n]? = some o := by rw [h]; exact hb
theorem drewN_below4 (w : World) (n : Nat) : Below w.heap.size w (w.drewN n) := ⟨rfl, rfl, rfl, Nat.le_refl _, fun _ _ => rfl⟩

set_option maxHeartbeats 2000000 in
set_option maxRecDepth 100000 in
theorem next_sign (s : ByteArray) (sc : Bool) (w : World) (hs : s.size ≤ 140737488351232) (hp : 0 < s.size) (hn : nameL s.data.toList sc = 0) (hd : digC (atL s.data.toList 0) = false) (hq : ¬ (atL s.data.toList 0 = 34 ∨ atL s.data.toList 0 = 39)) : Calls Tryz.prog 186 #[.string s, .bool sc] w fun e w' =>
    nextRes (signNx s.data.toList) e ∧ Below w.heap.size w w' := by
  have hname := fun W => name_any s sc W (by omega)
  rw [hn] at hname
  have hd1 := fun W => rdigit_any (atL s.data.toList 0) W
  rw [hd] at hd1
  have hby := byteI s 0 hp
  have b34 : (((s[0].toNat : Nat) : Int) == 34) = false := int_eqb (by rw [hby]; omega)
  have b39 : (((s[0].toNat : Nat) : Int) == 39) = false := int_eqb (by rw [hby]; omega)
  have hl28 : signsL.length = 28 := rfl
  clear hn hd hq
  have hby2 : ((s[0].toNat : Nat) : Int) = ((atL s.data.toList 0 : Nat) : Int) := hby
  rw [← hby] at hd1
  clear hby hby2
  go_enter Tryz.func186, Tryz.ntmps186
  go_wp2_with (first
    | (go_at_call 213; refine (hname _).mono ?_; rintro e W ⟨rfl, rfl⟩)
    | (go_at_call 215; refine (hd1 _).mono ?_; rintro e W ⟨rfl, rfl⟩)
    | (go_at_call 218; refine (signs_any _).mono ?_; rintro e W1 ⟨rfl, ho, hb1⟩))
  have hblk := four_new hb1
  have hbw : Below w.heap.size w W1 := ((Below.refl _ w).alloc (Nat.le_refl _) _).trans (hb1.mono (by simp))
  have ho := row_eq (m := w.heap.size + 1) ho (by simp)
  go_loopw [15] (fun v15 W => ∃ k : Nat, v15 = .int .i64 k ∧ k ≤ 28 ∧ Hid (W.heap = W1.heap) ∧ Below w.heap.size w W ∧ Hid (∀ g ∈ signsL.take k, g.isPrefixOf s.data.toList = false)) (fun v15 _ => 28 - (intOf v15).toNat)
  case atStart => exact ⟨0, rfl, by omega, rfl, hbw, by intro g hg; simp at hg⟩
  case round =>
    obtain ⟨k, rfl, hk, hh, hb, hl⟩ := hrel
    by_cases hkl : k < 28
    · have hk2 : (k : Int) < 28 := by omega
      obtain ⟨g, hg⟩ : ∃ g, signsL[k]? = some g := ⟨_, List.getElem?_eq_getElem (by rw [hl28]; exact hkl)⟩
      have hc := text_at (same_row ho hh.out) hg hkl
      have hpx := sign_at (l := s.data.toList) (g := g)
      rw [← Lib.size_eq] at hpx
      obtain ⟨G, hG⟩ : ∃ G : ByteArray, G = ⟨g.toArray⟩ := ⟨_, rfl⟩
      have hGl : G.data.toList = g := by rw [hG]
      have hGs : G.size = g.length := by rw [Lib.size_eq, hGl]
      rw [← hG] at hc
      have hcut := cut_list s G.size
      have heq : ((s.extract 0 G.size).toList == G.toList) = (s.data.toList.take g.length == g) := by
        rw [Lib.toList_data, Lib.toList_data, hcut, hGl, hGs]
      have HG : Hid (signsL[k]? = some g ∧ G = ⟨g.toArray⟩ ∧ G.size = g.length) := ⟨hg, hG, hGs⟩
      rw [← hGs] at hpx
      rw [hGs] at hpx
      clear hg hGl hcut
      cases hpre : g.isPrefixOf s.data.toList
      · have hl2 : Hid (∀ x ∈ signsL.take (k + 1), x.isPrefixOf s.data.toList = false) := by
          intro x hx
          rw [List.take_add_one, HG.out.1] at hx
          rcases List.mem_append.1 hx with hx | hx
          · exact hl.out x hx
          · rw [show x = g from by simpa using hx]; exact hpre
        rw [hpre] at hpx
        by_cases hle : g.length ≤ s.size
        · have e1 : ((s.extract 0 G.size).toList == G.toList) = false := by
            rw [heq]
            rw [decide_eq_true hle, Bool.true_and] at hpx
            exact hpx.symm
          have d1 : decide ((G.size : Int) ≤ (s.size : Int)) = true := decide_eq_true (by omega)
          have d2 : (G.size : Int) ≤ (s.size : Int) := by omega
          clear hpx heq hG hGs hl hpre
          go_wp2
          go_quiet (fail)
          go_wp2
          go_roundw
          case rel => exact ⟨k + 1, by simp, by omega, hh, hb.trans ((drewN_below4 _ _).mono hb.size), hl2⟩
          case measure => simp [intOf]; omega
        · have d1 : decide ((G.size : Int) ≤ (s.size : Int)) = false := decide_eq_false (by omega)
          have d3 : decide (G.size ≤ s.size) = false := decide_eq_false (by omega)
          clear hle
          clear hpx heq hG hGs hl hpre
          go_wp2
          go_quiet (fail)
          go_wp2
          go_roundw
          case rel => exact ⟨k + 1, by simp, by omega, hh, hb.trans ((drewN_below4 _ _).mono hb.size), hl2⟩
          case measure => simp [intOf]; omega
      · have HF : Hid (signNx s.data.toList = .ok ((5, g, 0), g.length)) := by
          show _ = _
          unfold signNx
          rw [find_step HG.out.1 hl.out hpre]
        rw [hpre] at hpx
        have hle : g.length ≤ s.size := by
          by_cases h : g.length ≤ s.size
          · exact h
          · rw [decide_eq_false h] at hpx; cases hpx
        have e1 : ((s.extract 0 G.size).toList == G.toList) = true := by
          rw [heq]
          rw [decide_eq_true hle, Bool.true_and] at hpx
          exact hpx.symm
        have d1 : decide ((G.size : Int) ≤ (s.size : Int)) = true := decide_eq_true (by omega)
        have d2 : (G.size : Int) ≤ (s.size : Int) := by omega
        have hblk2 := heap_at hh.out hblk
        obtain ⟨⟨c0, c1, c2, c3⟩, f0, f1, f2, f3⟩ := four_of hblk2
        clear hpx heq hG hGs hl hpre
        go_wp2
        go_quiet (fail)
        go_wp2
        go_region
        go_wp2
        refine bodyPost_ret (next_res (four_set (heap_at (W' := World.drewN wr _) rfl hblk2)) rfl) rfl ⟨?_, four_below (hb.trans ((drewN_below4 _ _).mono hb.size)) (Nat.le_refl _)⟩
        rw [HF.out]
        show _ = _
        simp only [tokV, ← HG.out.2.1, ← HG.out.2.2]
        rfl
    · have hk2 : ¬ (k : Int) < 28 := by omega
      have HF : Hid (signNx s.data.toList = .error 40) := by
        have h1 := hl.out
        rw [List.take_of_length_le (by rw [hl28]; omega)] at h1
        show _ = _
        unfold signNx
        rw [find_none h1]
      have hblk2 := heap_at hh.out hblk
      obtain ⟨⟨c0, c1, c2, c3⟩, f0, f1, f2, f3⟩ := four_of hblk2
      clear hl
      go_wp2
      refine bodyPost_ret (next_res (four_set hblk2) rfl) rfl ⟨?_, four_below hb (Nat.le_refl _)⟩
      rw [HF.out]
      exact ⟨(0, [], 0), rfl⟩

theorem next_any (s : ByteArray) (sc : Bool) (w : World) (hs : s.size ≤ 140737488351232) (hp : 0 < s.size) : Calls Tryz.prog 186 #[.string s, .bool sc] w fun e w' =>
    nextRes (nextL s.data.toList sc) e ∧ Below w.heap.size w w' := by
  unfold nextL
  by_cases h1 : 0 < nameL s.data.toList sc
  · rw [if_pos h1]
    exact next_name s sc w hs h1
  · rw [if_neg h1]
    have h0 : nameL s.data.toList sc = 0 := by omega
    cases h2 : digC (atL s.data.toList 0)
    · rw [if_neg (by simp)]
      by_cases h3 : atL s.data.toList 0 = 34 ∨ atL s.data.toList 0 = 39
      · rw [if_pos h3]; exact next_text s sc w hs hp h0 h2 h3
      · rw [if_neg h3]; exact next_sign s sc w hs hp h0 h2 h3
    · rw [if_pos rfl]; exact next_num s sc w hs hp h0 h2

end Go.Proofs.YtpnljjcdlkjfhaaGreatDoor
