/- Own text. The document's next token. The document's next token: numbers, texts. -/
import Derived.Test.YtadkmlcnmkdfiaaGreatDoorX4
import Derived.Test.YtadkmlcnmkdfiaaGreatDoorRefUnq5
namespace Go.Proofs.YtadkmlcnmkdfiaaGreatDoor
open Go.RowKit
set_option linter.unusedVariables false

def tokV (t : Tk) (a : Int) : Value := .agg #[.int .i64 t.1, .string ⟨t.2.1.toArray⟩, .int .i64 t.2.2, .int .i64 a]

theorem four_of {W1 : World} {n : Nat} {a b c d : Value} {t : TypeId} (hb : W1.heap[n]? = some (.cells #[a, b, c, d] t)) :
    (W1.cell? ⟨n, 0, none⟩ = some a ∧ W1.cell? ⟨n, 1, none⟩ = some b ∧ W1.cell? ⟨n, 2, none⟩ = some c ∧ W1.cell? ⟨n, 3, none⟩ = some d) ∧
    (W1.frozen? ⟨n, 0, none⟩ = false ∧ W1.frozen? ⟨n, 1, none⟩ = false ∧ W1.frozen? ⟨n, 2, none⟩ = false ∧ W1.frozen? ⟨n, 3, none⟩ = false) := by
  refine ⟨⟨?_, ?_, ?_, ?_⟩, ?_, ?_, ?_, ?_⟩
  · rw [cell_of_row W1 _ 0 _ _ _ hb]; rfl
  · rw [cell_of_row W1 _ 1 _ _ _ hb]; rfl
  · rw [cell_of_row W1 _ 2 _ _ _ hb]; rfl
  · rw [cell_of_row W1 _ 3 _ _ _ hb]; rfl
  · exact frozen_of_row W1 _ 0 _ _ hb
  · exact frozen_of_row W1 _ 1 _ _ hb
  · exact frozen_of_row W1 _ 2 _ _ hb
  · exact frozen_of_row W1 _ 3 _ _ hb
theorem four_set {W : World} {n : Nat} {a b c d x y z u : Value} {t : TypeId} (hb : W.heap[n]? = some (.cells #[a, b, c, d] t)) :
    ((((W.setCell ⟨n, 0, none⟩ x).setCell ⟨n, 1, none⟩ y).setCell ⟨n, 2, none⟩ z).setCell ⟨n, 3, none⟩ u).heap[n]? = some (.cells #[x, y, z, u] t) := by
  have h1 := heap_setCell_same W n 0 _ t x hb
  have h2 := heap_setCell_same _ n 1 _ t y h1
  have h3 := heap_setCell_same _ n 2 _ t z h2
  have h4 := heap_setCell_same _ n 3 _ t u h3
  exact h4
theorem four_below {B : Nat} {w W : World} {n : Nat} {x y z u : Value} (hb : Below B w W) (hn : B ≤ n) : Below B w ((((W.setCell ⟨n, 0, none⟩ x).setCell ⟨n, 1, none⟩ y).setCell ⟨n, 2, none⟩ z).setCell ⟨n, 3, none⟩ u) :=
  (((hb.setCell hn _).setCell hn _).setCell hn _).setCell hn _
/-- what next hands back. -/
theorem next_res {W : World} {n : Nat} {a b c d : Value} {tmps : Array Value} (hb : W.heap[n]? = some (.cells #[a, b, c, d] 92)) (ht : tmps[4]?.getD undef = .pointer (some ⟨n, 0, none⟩)) :
    (results Tryz.f65 tmps).run Tryz.prog W = .ok (.tuple #[.agg #[a, b, c, d], tmps.getD 5 undef, tmps.getD 6 undef]) W := by
  obtain ⟨⟨c0, c1, c2, c3⟩, _⟩ := four_of hb
  simp [results, Tryz.results65, go_sem, ht, c0, c1, c2, c3]

theorem four_new {w W1 : World} {o : Obj} (hb : Below (w.alloc o).heap.size (w.alloc o) W1) : W1.heap[w.heap.size]? = some o := by
  rw [hb.block _ (by simp)]
  exact heap_alloc_new w o
theorem cut_list (s : ByteArray) (k : Nat) : s.extract 0 k = ⟨(s.data.toList.take k).toArray⟩ := by
  apply ByteArray.ext
  apply Array.toList_inj.1
  rw [ByteArray.data_extract, Array.toList_extract, List.extract_eq_take_drop]
  simp

set_option maxHeartbeats 4000000 in
set_option maxRecDepth 100000 in
theorem next_name (s : ByteArray) (sc : Bool) (w : World) (hs : s.size ≤ 140737488351232) (hn : 0 < nameL s.data.toList sc) : Calls Tryz.prog 65 #[.string s, .bool sc] w fun e w' =>
    e = .returned (.tuple #[tokV ((if wordB (s.data.toList.take (nameL s.data.toList sc)) then 2 else 1), s.data.toList.take (nameL s.data.toList sc), 0) 0, .int .i64 (nameL s.data.toList sc : Nat), .int .i64 0]) ∧ Below w.heap.size w w' := by
  have hname := fun W => name_any s sc W (by omega)
  have hle := nameL_le s.data.toList sc
  rw [← Lib.size_eq] at hle
  have hcl := cut_list s (nameL s.data.toList sc)
  generalize nameL s.data.toList sc = k at *
  have hk2 : (0 : Int) < (k : Int) := by omega
  have hk3 : (k : Int) ≤ (s.size : Int) := by omega
  have hword := fun W => word_any (s.extract 0 k) W
  have hxl : (s.extract 0 k).data.toList = s.data.toList.take k := by rw [hcl]
  rw [hxl] at hword
  have HX : Hid (s.extract 0 k = ⟨(s.data.toList.take k).toArray⟩) := hcl
  clear hcl
  cases hwd : wordB (s.data.toList.take k)
  · rw [hwd] at hword
    go_enter Tryz.func65, Tryz.ntmps65
    go_wp2_with (first
      | (go_at_call 97; refine (hname _).mono ?_; rintro e W ⟨rfl, rfl⟩)
      | (go_at_call 98; refine (hword _).mono ?_; rintro e W1 ⟨rfl, hb1⟩; obtain ⟨⟨c0, c1, c2, c3⟩, f0, f1, f2, f3⟩ := four_of (four_new hb1)))
    refine bodyPost_ret (next_res (four_set (four_new hb1)) rfl) rfl ⟨?_, ?_⟩
    · simp only [tokV, HX.out]; rfl
    · exact four_below (((Below.refl _ w).alloc (Nat.le_refl _) _).trans (hb1.mono (by simp))) (Nat.le_refl _)
  · rw [hwd] at hword
    go_enter Tryz.func65, Tryz.ntmps65
    go_wp2_with (first
      | (go_at_call 97; refine (hname _).mono ?_; rintro e W ⟨rfl, rfl⟩)
      | (go_at_call 98; refine (hword _).mono ?_; rintro e W1 ⟨rfl, hb1⟩; obtain ⟨⟨c0, c1, c2, c3⟩, f0, f1, f2, f3⟩ := four_of (four_new hb1)))
    refine bodyPost_ret (next_res (four_set (four_new hb1)) rfl) rfl ⟨?_, ?_⟩
    · simp only [tokV, HX.out]; rfl
    · exact four_below (((Below.refl _ w).alloc (Nat.le_refl _) _).trans (hb1.mono (by simp))) (Nat.le_refl _)
end Go.Proofs.YtadkmlcnmkdfiaaGreatDoor
namespace Go.Proofs.YtadkmlcnmkdfiaaGreatDoor
open Go.RowKit
set_option linter.unusedVariables false

def nextRes (n : Nx) (e : Ending) : Prop := match n with
  | .ok x => e = .returned (.tuple #[tokV x.1 0, .int .i64 (x.2 : Nat), .int .i64 0])
  | .error c => ∃ t : Tk, e = .returned (.tuple #[tokV t 0, .int .i64 0, .int .i64 (c : Nat)])

set_option maxHeartbeats 4000000 in
set_option maxRecDepth 100000 in
theorem next_num (s : ByteArray) (sc : Bool) (w : World) (hs : s.size ≤ 140737488351232) (hp : 0 < s.size) (hn : nameL s.data.toList sc = 0) (hd : digC (atL s.data.toList 0) = true) : Calls Tryz.prog 65 #[.string s, .bool sc] w fun e w' =>
    nextRes (numbL s.data.toList sc) e ∧ Below w.heap.size w w' := by
  have hname := fun W => name_any s sc W (by omega)
  rw [hn] at hname
  have hnum := fun W => number_any4 s sc W (by omega)
  have hd1 := fun W => rdigit_any (atL s.data.toList 0) W
  rw [hd] at hd1
  have hby := byteI s 0 hp
  clear hn hd
  generalize atL s.data.toList 0 = c at *
  cases hx : numbL s.data.toList sc with
  | error e0 =>
    rw [hx] at hnum
    simp only [numbRes] at hnum
    clear hx
    go_enter Tryz.func65, Tryz.ntmps65
    go_wp2_with (first
      | (go_at_call 97; refine (hname _).mono ?_; rintro e W ⟨rfl, rfl⟩)
      | (go_at_call 99; refine (hd1 _).mono ?_; rintro e W ⟨rfl, rfl⟩)
      | (go_at_call 100; refine (hnum _).mono ?_; rintro e W ⟨rfl, rfl⟩))
    exact bodyPost_ret (next_res (heap_alloc_new _ _) rfl) rfl ⟨⟨(3, [], 0), rfl⟩, (Below.refl _ w).alloc (Nat.le_refl _) _⟩
  | ok x =>
    rw [hx] at hnum
    simp only [numbRes] at hnum
    have HX : Hid (x.1 = (3, [], x.1.2.2)) := by
      unfold numbL at hx
      split at hx
      · cases hx
      · split at hx
        · cases hx
        · cases hx; rfl
    clear hx
    go_enter Tryz.func65, Tryz.ntmps65
    go_wp2_with (first
      | (go_at_call 97; refine (hname _).mono ?_; rintro e W ⟨rfl, rfl⟩)
      | (go_at_call 99; refine (hd1 _).mono ?_; rintro e W ⟨rfl, rfl⟩)
      | (go_at_call 100; refine (hnum _).mono ?_; rintro e W ⟨rfl, rfl⟩))
    refine bodyPost_ret (next_res (heap_alloc_new _ _) rfl) rfl ⟨?_, (Below.refl _ w).alloc (Nat.le_refl _) _⟩
    show _ = _
    rw [HX.out]
    rfl

set_option maxHeartbeats 4000000 in
set_option maxRecDepth 100000 in
theorem next_text (s : ByteArray) (sc : Bool) (w : World) (hs : s.size ≤ 140737488351232) (hp : 0 < s.size) (hn : nameL s.data.toList sc = 0) (hd : digC (atL s.data.toList 0) = false) (hq : atL s.data.toList 0 = 34 ∨ atL s.data.toList 0 = 39) : Calls Tryz.prog 65 #[.string s, .bool sc] w fun e w' =>
    nextRes (unqNx s.data.toList) e ∧ Below w.heap.size w w' := by
  have hname := fun W => name_any s sc W (by omega)
  rw [hn] at hname
  have hunq := fun W => refUnquote_any s W hs
  have hd1 := fun W => rdigit_any (atL s.data.toList 0) W
  rw [hd] at hd1
  have hby := byteI s 0 hp
  clear hn hd
  cases hx : unquoteL s.data.toList with
  | none =>
    have HN : Hid (unqNx s.data.toList = .error 40) := by show _ = _; unfold unqNx; rw [hx]
    rw [hx] at hunq
    simp only [unqRes] at hunq
    clear hx
    rcases hq with hq | hq
    all_goals
      rw [hq] at hby hd1
      clear hq
      go_enter Tryz.func65, Tryz.ntmps65
      go_wp2_with (first
        | (go_at_call 97; refine (hname _).mono ?_; rintro e W ⟨rfl, rfl⟩)
        | (go_at_call 99; refine (hd1 _).mono ?_; rintro e W ⟨rfl, rfl⟩)
        | (go_at_call 101; refine (hunq _).mono ?_; rintro e W1 ⟨rfl, hb1⟩; obtain ⟨⟨c0, c1, c2, c3⟩, f0, f1, f2, f3⟩ := four_of (four_new hb1)))
      refine bodyPost_ret (next_res (four_set (four_new hb1)) rfl) rfl ⟨by rw [HN.out]; exact ⟨(0, [], 0), rfl⟩, ?_⟩
      exact four_below (((Below.refl _ w).alloc (Nat.le_refl _) _).trans (hb1.mono (by simp))) (Nat.le_refl _)
  | some x =>
    have HN : Hid (unqNx s.data.toList = .ok ((4, x.1, 0), x.2)) := by show _ = _; unfold unqNx; rw [hx]
    rw [hx] at hunq
    simp only [unqRes] at hunq
    clear hx
    rcases hq with hq | hq
    all_goals
      rw [hq] at hby hd1
      clear hq
      go_enter Tryz.func65, Tryz.ntmps65
      go_wp2_with (first
        | (go_at_call 97; refine (hname _).mono ?_; rintro e W ⟨rfl, rfl⟩)
        | (go_at_call 99; refine (hd1 _).mono ?_; rintro e W ⟨rfl, rfl⟩)
        | (go_at_call 101; refine (hunq _).mono ?_; rintro e W1 ⟨rfl, hb1⟩; obtain ⟨⟨c0, c1, c2, c3⟩, f0, f1, f2, f3⟩ := four_of (four_new hb1)))
      refine bodyPost_ret (next_res (four_set (four_new hb1)) rfl) rfl ⟨by rw [HN.out]; rfl, ?_⟩
      exact four_below (((Below.refl _ w).alloc (Nat.le_refl _) _).trans (hb1.mono (by simp))) (Nat.le_refl _)

theorem sign_at {l : Bs} {g : Bs} : g.isPrefixOf l = (decide (g.length ≤ l.length) && (l.take g.length == g)) := by
  rw [Bool.eq_iff_iff, List.isPrefixOf_iff_prefix]
  simp only [Bool.and_eq_true, decide_eq_true_eq, beq_iff_eq]
  constructor
  · rintro ⟨t, ht⟩
    rw [← ht]
    simp
  · rintro ⟨h1, h2⟩
    exact ⟨l.drop g.length, by conv => lhs; lhs; rw [← h2]
                               exact List.take_append_drop _ _⟩
theorem find_step {α : Type} {p : α → Bool} {l : List α} {k : Nat} {x : α} (hk : l[k]? = some x) (h : ∀ y ∈ l.take k, p y = false) (hx : p x = true) : l.find? p = some x := by
  induction l generalizing k with
  | nil => simp at hk
  | cons y r ih =>
    cases k with
    | zero =>
      have : y = x := by simpa using hk
      subst this
      simp [hx]
    | succ k =>
      have h0 := h y (by simp)
      simp only [List.find?_cons, h0]
      exact ih (by simpa using hk) (fun z hz => h z (by simp [hz]))
theorem find_none {α : Type} {p : α → Bool} {l : List α} (h : ∀ y ∈ l, p y = false) : l.find? p = none := by
  rw [List.find?_eq_none]
  intro y hy
  simp [h y hy]

end Go.Proofs.YtadkmlcnmkdfiaaGreatDoor
