/- The contract of the document's function that cuts a text into runes. -/
import Derived.Test.YtggahoefbcnaiaaDoorHead
import Derived.OwnWalk
import Derived.Maps.AppendAt
namespace Go.Proofs.YtggahoefbcnaiaaDoor
open Go.RowKit

def headV (l : List UInt8) : Int := if strayL l then -1 else ((decL l).1 : Int)
theorem headL_split (l : List UInt8) : headL l = (((decL l).2 : Int), headV l) := by
  unfold headL headV
  by_cases h : strayL l = true
  · rw [if_pos h, if_pos h]
    have : (decL l).2 = 1 := by simp [strayL] at h; exact h.2
    rw [this]; rfl
  · rw [if_neg h, if_neg h]
theorem head_any2 (s : ByteArray) (w : World) (h0 : 0 < s.size) (hs : s.size ≤ maxLen) :
    Calls Tryd.prog 88 #[.string s] w fun e w' => e = .returned (.tuple #[.int .i64 ((decL s.data.toList).2 : Int), .int .i64 (headV s.data.toList)]) ∧ w' = w := by
  have h := head_any s w h0 hs
  rw [headL_split] at h
  exact h

def strsV (xs : List (Nat × List UInt8)) : List Value := xs.map fun x => .string ⟨x.2.toArray⟩
theorem strsV_length (xs : List (Nat × List UInt8)) : (strsV xs).length = xs.length := by simp [strsV]
theorem strsV_append (xs ys : List (Nat × List UInt8)) : strsV (xs ++ ys) = strsV xs ++ strsV ys := by simp [strsV]

theorem cut_head (t : ByteArray) (n : Nat) : t.extract 0 n = ⟨(t.data.toList.take n).toArray⟩ := by
  apply ByteArray.ext
  simp [ByteArray.data_extract]
  apply Array.ext'
  simp
theorem cut_tail (t : ByteArray) (n : Nat) : (t.extract n t.size).data.toList = t.data.toList.drop n := drop_extract t n

def strLen : Value → Nat
  | .string t => t.size
  | _ => 0
theorem ne_nil_of_size (t : ByteArray) (h : 0 < t.size) : t.data.toList ≠ [] := by
  intro e
  have := Lib.size_eq t
  rw [e, List.length_nil] at this
  omega

/-- What is carried from round to round. -/
def RunesAt (w : World) (L : List UInt8) (N : Nat) (wr : World) (t : ByteArray) (v : Value) (b : Bool) : Prop :=
  ∃ done, wr.ownsRow w.heap.size 9 1 v done.length (strsV done) ∧ Below w.heap.size w wr ∧ done ++ scan t.data.toList = scan L ∧ b = (done.all fun x => !strayP x) ∧ done.length + t.size ≤ N

set_option maxHeartbeats 4000000 in
set_option maxRecDepth 100000 in
theorem refRunes_any (s : ByteArray) (w : World) (hs : s.size ≤ 1099511627776) :
    Calls Tryd.prog 73 #[.string s] w fun e w' => ∃ v, e = .returned (.tuple #[v, .bool (validL s.data.toList)]) ∧ w'.ownsRow w.heap.size 9 1 v (scan s.data.toList).length (strsV (scan s.data.toList)) ∧ Below w.heap.size w w' := by
  have hi9 : (Tryd.prog.info? 9).map (fun i => (i.zero, i.size, i.bytes)) = some (some (.string ByteArray.empty), 1, 16) := by kernel_rfl
  obtain ⟨i0, hi, hx⟩ := Option.map_eq_some_iff.1 hi9
  simp only [Prod.mk.injEq] at hx
  obtain ⟨hz0, hz1, hz2⟩ := hx
  clear hi9
  go_enter Tryd.func73, Tryd.ntmps73
  go_wp2
  go_loopw [0, 4, 5] (fun x v b wr => ∃ (t : ByteArray) (bo : Bool), x = .string t ∧ b = .bool bo ∧ RunesAt w s.data.toList s.size wr t v bo) (fun x _ _ _ => strLen x)
  case atStart => exact ⟨s, true, rfl, rfl, [], World.ownsRow_nil _ _ _ _, Below.refl _ _, rfl, rfl, by simp⟩
  case round =>
    obtain ⟨t, bo, rfl, rfl, done, hown, hbw, hdone, hbo, hlen⟩ := hrel
    by_cases h0 : 0 < t.size
    · have hne := ne_nil_of_size t h0
      have hwd := (decL_width t.data.toList).1
      have hwl := decL_le _ hne
      rw [← Lib.size_eq] at hwl
      have hcons := scan_cons _ hne
      have hstr := strayL_eq _ hne
      have hhead := fun w1 => head_any2 t w1 h0 (by unfold maxLen; omega)
      have htl := Lib.size_eq (t.extract (decL t.data.toList).2 t.size)
      have hcut := cut_tail t (decL t.data.toList).2
      rw [hcut, List.length_drop, ← Lib.size_eq] at htl
      obtain ⟨n, hn⟩ : ∃ n, n = (decL t.data.toList).2 := ⟨_, rfl⟩
      have Hstep : Hid (∀ W v, W.ownsRow w.heap.size 9 1 v (done.length + 1) (strsV done ++ [.string (t.extract 0 n)]) → Below w.heap.size w W → RunesAt w s.data.toList s.size W (t.extract n t.size) v (bo && !strayL t.data.toList)) := by
        intro W v hv hW
        refine ⟨done ++ [((decL t.data.toList).1, t.data.toList.take (decL t.data.toList).2)], ?_, hW, ?_, ?_, ?_⟩
        · rw [cut_head, hn] at hv
          rw [List.length_append, strsV_append]
          exact hv
        · rw [hn, hcut, List.append_assoc, ← hdone, hcons]
          rfl
        · rw [hbo, List.all_append, hstr]
          simp
        · rw [List.length_append, hn, htl, List.length_singleton]
          omega
      have hnew : (t.extract n t.size).size < t.size := by rw [hn, htl]; omega
      rw [← hn] at hhead hwd hwl
      clear hcons hstr hcut htl hdone hbo hn
      have hE : t.toList.isEmpty = false := by rw [Lib.toList_data]; simpa using hne
      clear hne
      have hsz := hbw.size
      by_cases hst : strayL t.data.toList = true
      · have hv : headV t.data.toList = -1 := by rw [headV, if_pos hst]
        rw [hv] at hhead
        rw [hst] at Hstep
        clear hv hst
        cases bo
        all_goals
          go_wp2_with (first | (go_at_call 88; refine (hhead _).mono ?_; rintro e w' ⟨rfl, rfl⟩) | (at_builtin; refine wpList_append_own _ rfl _ _ 41 rfl w.heap.size 9 i0 (.string ByteArray.empty) 1 16 Tryd.underlying41 hi hz0 hz1 hz2 rfl (by decide) _ _ _ rfl (hown.alloc _) ⟨_, 0, none⟩ 1 1 [.string (t.extract 0 n)] rfl rfl (cell_one_new _ _ _) (fun x hx => by simp at hx; subst hx; rfl) (by unfold maxLen; omega) (by omega) (by simp; omega) ?_))
          intro v' W2 hown' hg _
          have hb2 := (hbw.alloc (by omega) _).grown hg (by simp; omega) (fun k hk => (hown.lt k hk).1)
          have hqa := Hstep.out W2 v' hown' hb2
          clear hown' hg hb2
          go_wp2
          go_roundw
          case rel => exact ⟨_, _, rfl, rfl, hqa⟩
          case measure => exact hnew
      · have hst' : strayL t.data.toList = false := by simpa using hst
        have hv : headV t.data.toList = ((decL t.data.toList).1 : Int) := by rw [headV, if_neg hst]
        rw [hv] at hhead
        rw [hst'] at Hstep
        clear hv hst hst'
        cases bo
        all_goals
          go_wp2_with (first | (go_at_call 88; refine (hhead _).mono ?_; rintro e w' ⟨rfl, rfl⟩) | (at_builtin; refine wpList_append_own _ rfl _ _ 41 rfl w.heap.size 9 i0 (.string ByteArray.empty) 1 16 Tryd.underlying41 hi hz0 hz1 hz2 rfl (by decide) _ _ _ rfl (hown.alloc _) ⟨_, 0, none⟩ 1 1 [.string (t.extract 0 n)] rfl rfl (cell_one_new _ _ _) (fun x hx => by simp at hx; subst hx; rfl) (by unfold maxLen; omega) (by omega) (by simp; omega) ?_))
          intro v' W2 hown' hg _
          have hb2 := (hbw.alloc (by omega) _).grown hg (by simp; omega) (fun k hk => (hown.lt k hk).1)
          have hqa := Hstep.out W2 v' hown' hb2
          clear hown' hg hb2
          go_wp2
          go_roundw
          case rel => exact ⟨_, _, rfl, rfl, hqa⟩
          case measure => exact hnew
    · have hE : t.toList.isEmpty = true := by
        rw [Lib.toList_data, List.isEmpty_iff]
        exact List.eq_nil_of_length_eq_zero (by rw [← Lib.size_eq]; omega)
      have hnil : scan t.data.toList = [] := by
        rw [Lib.toList_data, List.isEmpty_iff] at hE
        rw [hE]; rfl
      rw [hnil, List.append_nil] at hdone
      subst hdone
      go_wp2
      go_ret2
      exact ⟨_, by rw [validL, ← hbo]; rfl, hown, hbw⟩
end Go.Proofs.YtggahoefbcnaiaaDoor
