/- Own text. The document's Lex. -/
import Derived.Test.YtadkmlcnmkdfiaaGreatDoorX8
import Derived.Maps.AppendAt
namespace Go.Proofs.YtadkmlcnmkdfiaaGreatDoor
open Go.RowKit
set_option linter.unusedVariables false

def tokCells (x : Tk × Int) : List Value := [.int .i64 x.1.1, .string ⟨x.1.2.1.toArray⟩, .int .i64 x.1.2.2, .int .i64 x.2]
def rowT (ts : List (Tk × Int)) : List Value := ts.flatMap tokCells
theorem rowT_length (ts : List (Tk × Int)) : (rowT ts).length = ts.length * 4 := by
  induction ts with
  | nil => rfl
  | cons t ts ih =>
    unfold rowT at *
    rw [List.flatMap_cons, List.length_append, ih, List.length_cons]
    simp [tokCells]
    omega
theorem rowT_snoc (ts : List (Tk × Int)) (x : Tk × Int) : rowT (ts ++ [x]) = rowT ts ++ tokCells x := by simp [rowT]
abbrev ToksAt (w : World) (base : Nat) (v : Value) (ts : List (Tk × Int)) : Prop := w.ownsRow base 92 4 v ts.length (rowT ts)
/-- places as numbers. -/
def ints (ts : List (Tk × Nat)) : List (Tk × Int) := ts.map fun x => (x.1, (x.2 : Int))
theorem ints_length (ts : List (Tk × Nat)) : (ints ts).length = ts.length := by simp [ints]
theorem ints_snoc (ts : List (Tk × Nat)) (x : Tk × Nat) : ints (ts ++ [x]) = ints ts ++ [(x.1, (x.2 : Int))] := by simp [ints]

theorem info_tok : (Tryz.prog.info? 92).map (fun i => (i.zero, i.size, i.bytes)) = some (some (.agg #[.int .i64 0, .string ByteArray.empty, .int .i64 0, .int .i64 0]), 4, 40) := by kernel_rfl
theorem add_plain (b o n : Nat) : (⟨b, o, none⟩ : Addr).add n = ⟨b, o + n, none⟩ := by
  unfold Addr.add
  split
  · rename_i h; subst h; rfl
  · rfl
theorem cells_new (w : World) (cs : Array Value) (t : TypeId) : ∀ j u, cs.toList[j]? = some u → (w.alloc (.cells cs t)).cell? ((⟨w.heap.size, 0, none⟩ : Addr).add j) = some u := by
  intro j u h
  rw [add_plain, cell_of_row _ _ (0 + j) cs t (0, 0) (heap_alloc_new w _)]
  simpa using h
theorem cells_new2 (w : World) (cs : Array Value) (t : TypeId) (n : Nat) (hn : n = w.heap.size) : ∀ j u, cs.toList[j]? = some u → (w.alloc (.cells cs t)).cell? ((⟨n, 0, none⟩ : Addr).add j) = some u := by
  subst hn
  exact cells_new w cs t
theorem toks_app {w : World} {base : Nat} {v : Value} {ts : List (Tk × Int)} {x : Tk × Int} (h : w.ownsRow base 92 4 v (ts.length + 1) (rowT ts ++ tokCells x)) : ToksAt w base v (ts ++ [x]) := by
  have e1 : (ts ++ [x]).length = ts.length + 1 := by simp
  unfold ToksAt
  rw [e1, rowT_snoc]
  exact h

theorem next_err {l : Bs} {sc : Bool} {c : Nat} (h : nextL l sc = .error c) : c = 40 ∨ c = 41 := by
  unfold nextL at h
  split at h
  · cases h
  · split at h
    · unfold numbL at h
      split at h
      · cases h; exact .inl rfl
      · split at h
        · cases h; exact .inr rfl
        · cases h
    · split at h
      · unfold unqNx at h
        split at h
        · cases h
        · cases h; exact .inl rfl
      · unfold signNx at h
        split at h
        · cases h
        · cases h; exact .inl rfl

def lexRes (r : Lx) (base : Nat) (e : Ending) (w' : World) : Prop := match r with
  | .ok ts => ∃ v, e = .returned (.tuple #[v, .int .i64 0, .int .i64 0]) ∧ ToksAt w' base v (ints ts)
  | .error x => e = .returned (.tuple #[.slice none 0 0, .int .i64 (x.1 : Nat), .int .i64 (x.2 : Nat)])

set_option maxHeartbeats 2000000 in
set_option maxRecDepth 100000 in
theorem lex_ref (s : ByteArray) (sc : Bool) (w : World) (hs : s.size ≤ 1099511627776) : Calls Tryz.prog 42 #[.string s, .bool sc] w fun e w' =>
    lexRes (lexL 0 s.data.toList sc) w.heap.size e w' ∧ Below w.heap.size w w' := by
  obtain ⟨i0, hi, hz0, hz1, hz2⟩ := info_parts info_tok
  have hsl : Hid (s.size = s.data.toList.length) := Lib.size_eq s
  go_enter Tryz.func42, Tryz.ntmps42
  go_wp2
  go_loopw [7, 8] (fun v7 v8 W => ∃ (a : Nat) (d : List (Tk × Nat)), v8 = .int .i64 a ∧ a ≤ s.size ∧ d.length ≤ a ∧ ToksAt W w.heap.size v7 (ints d) ∧ Below w.heap.size w W ∧
      Hid (lexL 0 s.data.toList sc = preL d (lexL a (s.data.toList.drop a) sc))) (fun _ v8 _ => s.size - (intOf v8).toNat)
  case atStart => exact ⟨0, [], rfl, Nat.zero_le _, by simp, World.ownsRow_nil _ _ _ _, Below.refl _ _, by simp [Hid, preL_nil]⟩
  case round =>
    obtain ⟨a, d, rfl, ha, hda, ht, hb, hh⟩ := hrel
    have hxl : (s.extract a s.size).data.toList = s.data.toList.drop a := drop_extract s a
    have hpa := fun W => past_any (s.extract a s.size) W (by rw [Lib.size_eq, hxl, List.length_drop, ← Lib.size_eq]; omega)
    rw [hxl] at hpa
    have hsr := drop_run s a ha
    have hpl := pastL_le (s.data.toList.drop a)
    rw [List.length_drop, ← Lib.size_eq] at hpl
    have hle := lexL_eq a (s.data.toList.drop a) sc
    obtain ⟨k, hk⟩ : ∃ k, k = (pastL (s.data.toList.drop a)).1 := ⟨_, rfl⟩
    rw [← hk] at hpa hpl hle
    rw [List.drop_drop] at hle
    clear hxl
    generalize s.extract a s.size = X at *
    cases hok : (pastL (s.data.toList.drop a)).2
    · rw [hok] at hpa hle
      have HR : Hid (lexL 0 s.data.toList sc = .error (a + k, 40)) := by
        show _ = _
        rw [hh.out, hle, if_pos rfl]
        rfl
      clear hle hk hok hh
      go_wp2_with (go_at_call 64; refine (hpa _).mono ?_; rintro e W ⟨rfl, rfl⟩)
      go_ret3
      refine ⟨?_, hb⟩
      rw [HR.out]
      show _ = _
      simp
    · rw [hok] at hpa hle
      rw [if_neg (by simp)] at hle
      clear hok hk
      by_cases hend : a + k = s.size
      · have hd0 : s.data.toList.drop (a + k) = [] := List.drop_eq_nil_of_le (by rw [← hsl.out]; omega)
        have HR : Hid (lexL 0 s.data.toList sc = .ok d) := by
          show _ = _
          rw [hh.out, hle, if_pos hd0]
          simp [preL]
        have he : (a : Int) + (k : Int) = (s.size : Int) := by omega
        clear hle hd0 hh
        go_wp2_with (go_at_call 64; refine (hpa _).mono ?_; rintro e W ⟨rfl, rfl⟩)
        go_ret3
        refine ⟨?_, hb⟩
        rw [HR.out]
        exact ⟨_, rfl, ht⟩
      · have hlt : a + k < s.size := by omega
        have hd0 : s.data.toList.drop (a + k) ≠ [] := drop_ne s (a + k) hlt
        rw [if_neg hd0] at hle
        have he : ((a : Int) + (k : Int) == (s.size : Int)) = false := int_eqb (by omega)
        have hyl : (s.extract (a + k) s.size).data.toList = s.data.toList.drop (a + k) := drop_extract s (a + k)
        have hys : (s.extract (a + k) s.size).size = s.size - (a + k) := by rw [Lib.size_eq, hyl, List.length_drop, ← Lib.size_eq]
        have hnx := fun W => next_any (s.extract (a + k) s.size) sc W (by omega) (by omega)
        rw [hyl] at hnx
        have hsr2 := drop_run s (a + k) (by omega)
        rw [show ((a + k : Nat) : Int) = (a : Int) + (k : Int) from by omega] at hsr2
        have hlen := fun x => next_len (l := s.data.toList.drop (a + k)) (sc := sc) (x := x) hd0
        clear hyl hys hd0
        generalize s.extract (a + k) s.size = Y at *
        cases hnl : nextL (s.data.toList.drop (a + k)) sc with
        | error c =>
          rw [hnl] at hnx hle
          have HR : Hid (lexL 0 s.data.toList sc = .error (a + k, c)) := by
            show _ = _
            rw [hh.out, hle]
            rfl
          have hc0 : ((c : Int) == 0) = false := int_eqb (by rcases next_err hnl with h | h <;> omega)
          clear hle hh hnl hlen
          simp only [nextRes] at hnx
          go_wp2_with (first
            | (go_at_call 64; refine (hpa _).mono ?_; rintro e W ⟨rfl, rfl⟩)
            | (go_at_call 65; refine (hnx _).mono ?_; rintro e W2 ⟨⟨⟨t1, t2, t3⟩, rfl⟩, hb2⟩; simp only [tokV]))
          go_ret3
          refine ⟨?_, (hb.trans (hb2.mono hb.size)).alloc (by have := hb.size; have := hb2.size; omega) _⟩
          rw [HR.out]
          show _ = _
          simp
        | ok x =>
          have hx := hlen x hnl
          rw [List.length_drop, ← hsl.out] at hx
          rw [hnl] at hnx hle
          simp only at hle
          have HR : Hid (lexL 0 s.data.toList sc = preL (d ++ [(x.1, a + k)]) (lexL (a + k + x.2) (s.data.toList.drop (a + k + x.2)) sc)) := by
            show _ = _
            rw [hh.out, hle, preL_cons, List.drop_drop, Nat.add_assoc]
          clear hle hh hnl hlen
          obtain ⟨⟨t1, t2, t3⟩, n⟩ := x
          simp only at hx HR
          simp only [nextRes, tokV] at hnx
          have hil := ints_length d
          go_wp2_with (first
            | (go_at_call 64; refine (hpa _).mono ?_; rintro e W ⟨rfl, rfl⟩)
            | (go_at_call 65; refine (hnx _).mono ?_; rintro e W2 ⟨rfl, hb2⟩)
            | (at_builtin; refine wpList_append_own _ rfl _ _ 84 rfl w.heap.size 92 i0 _ 4 40 Tryz.underlying84 hi hz0 hz1 hz2 rfl (by decide) _ _ _ rfl (((ht.kept (row := none) ⟨hb2.os, hb2.tape, hb2.output, hb2.size, fun k hk _ => hb2.block k hk⟩ (by cases hv : Value.ownBlock _ <;> simp)).alloc _).alloc _) ⟨_, 0, none⟩ 1 1 (tokCells ((t1, t2, t3), (a : Int) + (k : Int))) rfl rfl (cells_new2 _ #[.int .i64 t1, .string ⟨t2.toArray⟩, .int .i64 t3, .int .i64 ((a : Int) + (k : Int))] _ _ (by simp)) (by intro u hu; simp [tokCells] at hu; rcases hu with rfl | rfl | rfl | rfl <;> rfl) (by unfold maxLen; omega) (by omega) (by have h1 := hb.size; have h2 := hb2.size; simp; omega) ?_; intro v1 W3 ho1 hg1 hn1))
          go_roundw
          case rel =>
            have hbw := hb.trans (hb2.mono hb.size)
            refine ⟨a + k + n, d ++ [((t1, t2, t3), a + k)], by simp, by omega, by simp; omega, ?_, ?_, HR⟩
            · rw [ints_snoc]
              have e : (((t1, t2, t3), ((a + k : Nat) : Int)) : Tk × Int) = ((t1, t2, t3), (a : Int) + (k : Int)) := by simp
              rw [e]
              exact toks_app ho1
            · exact ((hbw.alloc hbw.size _).alloc (by have := hbw.size; simp; omega) _).grown hg1 (by have := hbw.size; simp; omega) (fun j hj => (ht.lt j hj).1)
          case measure => simp [intOf]; omega

end Go.Proofs.YtadkmlcnmkdfiaaGreatDoor
