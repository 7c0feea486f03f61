/- Own text. Normal and Join. -/
import Derived.Test.YtlogohcfahmilaaP3
import Derived.Laws.IdiomStrings
namespace Go.Proofs.Ytlogohcfahmilaa
open Go.RowKit
set_option linter.unusedVariables false

theorem ret_si {a b : ByteArray} {i j : Int} (h : a = b) (h2 : i = j) : Ending.returned (.tuple #[.string a, .int .i64 i]) = .returned (.tuple #[.string b, .int .i64 j]) := by rw [h, h2]
def nrmB (s : ByteArray) : ByteArray := ⟨(nrm s.data.toList).1.toArray⟩
theorem nrmB_list (s : ByteArray) : (nrmB s).data.toList = (nrm s.data.toList).1 := by simp [nrmB]
theorem nrmB_size (s : ByteArray) : (nrmB s).size ≤ 200 := by rw [Lib.size_eq, nrmB_list]; exact nrm_size _
def nrmE (s : ByteArray) : Int := ((nrm s.data.toList).2 : Int)

theorem under_u8 : Try.prog.underlying 5 = some (.int .u8) := Try.underlying5

set_option maxHeartbeats 4000000 in
theorem normal_any (s : ByteArray) (w : World) (hs : s.size ≤ 140737488355328) : Calls Try.prog 8 #[.string s] w fun e w' =>
    e = .returned (.tuple #[.string (nrmB s), .int .i64 (nrmE s)]) ∧ Below w.heap.size w w' := by
  by_cases h0 : Lib.hasPrefix s.data.toList [47] = true
  · obtain ⟨r, hr⟩ : ∃ r, s.data.toList = 47 :: r := by
      unfold Lib.hasPrefix at h0
      obtain ⟨t, ht⟩ := List.isPrefixOf_iff_prefix.1 h0
      exact ⟨t, ht.symm⟩
    have hsz : s.size = r.length + 1 := by rw [Lib.size_eq, hr]; rfl
    have c1 : (1 : Int) ≤ ↑s.size := by omega
    have e1 : (s.extract 1 s.size).data.toList = r := by rw [extract_suf, hr]; rfl
    have hz1 : (s.extract 1 s.size).size < 140737488355328 := by rw [Lib.size_eq, e1]; omega
    have hn : nrm s.data.toList = fin (walkL [] (splitS r)) := by rw [hr]; rfl
    have HN : Hid (nrm s.data.toList = fin (walkL [] (splitS r)) ∧ (s.extract 1 s.size).data.toList = r) := ⟨hn, e1⟩
    clear hn e1 hr hsz
    go_enter Try.func8, Try.ntmps8
    go_wp2_with (go_at_call 17; refine (Try.strings_HasPrefix _ _ _).mono ?_; rintro e w' ⟨rfl, rfl⟩; rw [h0])
    refine (walk_any _ _ hz1).mono ?_
    rw [HN.out.2]
    rintro e W ⟨hb, ⟨hn, rfl⟩ | ⟨L, kv, hL, rfl, hk⟩⟩
    · have HX : Hid (nrm s.data.toList = ([], 30)) := by rw [HN.out.1, hn]; rfl
      clear hn HN
      go_wp2
      go_ret2
      exact ⟨ret_si (toList_ext (by rw [nrmB_list, HX.out])) (by unfold nrmE; rw [HX.out]; rfl), hb⟩
    · by_cases hL0 : L = []
      · subst hL0
        have HX : Hid (nrm s.data.toList = ([], 30)) := by rw [HN.out.1, hL]; rfl
        obtain ⟨A, c, rfl⟩ := row_form hk
        clear hL HN
        go_wp2
        go_ret2
        exact ⟨ret_si (toList_ext (by rw [nrmB_list, HX.out])) (by unfold nrmE; rw [HX.out]; rfl), hb⟩
      · have hpos : 0 < (joinS L).length := by
          obtain ⟨M, q, rfl⟩ := snoc_of hL0
          rw [joinS_snoc]; simp; omega
        obtain ⟨g, c, rfl, hgb, hnc⟩ := row_some hk hpos
        have hcv := run_convert_bytes_back (P := Try.prog) W 35 9 5 ⟨g, 0, none⟩ c (joinS L) Try.underlying35 under_u8 Try.underlying9 (fun j hj => by
          have h1 : (⟨g, 0, none⟩ : Addr).add j = ⟨g, j, none⟩ := by unfold Addr.add; split <;> simp_all
          rw [h1, hk.cellAt j (by omega)]
          simp [cellsB, hj])
        have HF : Hid (nrm s.data.toList = fin (some L) ∧ L ≠ []) := by rw [HN.out.1, hL]; exact ⟨rfl, hL0⟩
        clear hL HN hL0 hk
        obtain ⟨n, hn⟩ : ∃ n, n = (joinS L).length := ⟨_, rfl⟩
        rw [← hn] at hcv hpos hnc ⊢
        have HL : Hid (n = (joinS L).length) := hn
        clear hn
        by_cases hbig : 200 < n
        · have HX : Hid (nrm s.data.toList = ([], 31)) := by
            show _ = _
            rw [HF.out.1]
            have := HL.out
            simp [fin, HF.out.2, ← this, hbig]
          clear HF
          go_wp2
          go_ret2
          exact ⟨ret_si (toList_ext (by rw [nrmB_list, HX.out])) (by unfold nrmE; rw [HX.out]; rfl), hb⟩
        · have HX : Hid (nrm s.data.toList = (joinS L, 0)) := by
            show _ = _
            rw [HF.out.1]
            exact fin_join HF.out.2 (by rw [← HL.out]; omega)
          clear HF
          go_wp2
          go_ret2
          exact ⟨ret_si (toList_ext (by rw [nrmB_list, HX.out])) (by unfold nrmE; rw [HX.out]; rfl), hb⟩
  · have h1 : Lib.hasPrefix s.data.toList [47] = false := by simpa using h0
    have HX : Hid (nrm s.data.toList = ([], 30)) := by
      show _ = _
      cases hl : s.data.toList with
      | nil => rfl
      | cons c r =>
        by_cases hc : c = 47
        · rw [hl, hc] at h1; simp [Lib.hasPrefix] at h1
        · simp [nrm, hc]
    clear h0
    go_enter Try.func8, Try.ntmps8
    go_wp2_with (go_at_call 17; refine (Try.strings_HasPrefix _ _ _).mono ?_; rintro e w' ⟨rfl, rfl⟩; rw [h1])
    go_ret2
    exact ⟨ret_si (toList_ext (by rw [nrmB_list, HX.out])) (by unfold nrmE; rw [HX.out]; rfl), Below.refl _ _⟩

def jnB (f r : ByteArray) : ByteArray := ⟨(jn f.data.toList r.data.toList).1.toArray⟩
theorem jnB_list (f r : ByteArray) : (jnB f r).data.toList = (jn f.data.toList r.data.toList).1 := by simp [jnB]
theorem jnB_size (f r : ByteArray) : (jnB f r).size ≤ 200 := by rw [Lib.size_eq, jnB_list]; exact jn_size _ _
def jnE (f r : ByteArray) : Int := ((jn f.data.toList r.data.toList).2 : Int)

theorem append_list (a b : ByteArray) : (a ++ b).data.toList = a.data.toList ++ b.data.toList := by
  rw [ByteArray.data_append, Array.toList_append]
theorem sum_list (f r : ByteArray) : (dirB f ++ ⟨#[47]⟩ ++ r).data.toList = dirS f.data.toList ++ 47 :: r.data.toList := by
  rw [append_list, append_list, dirB_list, List.append_assoc]
  rfl
theorem jn_yes (f r : ByteArray) (h : reqS r.data.toList = true) : nrmB (dirB f ++ ⟨#[47]⟩ ++ r) = jnB f r ∧ nrmE (dirB f ++ ⟨#[47]⟩ ++ r) = jnE f r := by
  unfold nrmB jnB nrmE jnE
  rw [sum_list]
  simp [jn, h]
theorem jn_no (f r : ByteArray) (h : reqS r.data.toList = false) : jnB f r = ⟨#[]⟩ ∧ jnE f r = 30 := by
  unfold jnB jnE
  simp [jn, h]

set_option maxHeartbeats 4000000 in
theorem join_any (f r : ByteArray) (w : World) (hs : f.size + r.size < 140737488355328) : Calls Try.prog 13 #[.string f, .string r] w fun e w' =>
    e = .returned (.tuple #[.string (jnB f r), .int .i64 (jnE f r)]) ∧ Below w.heap.size w w' := by
  have hd := dirB_size f
  have hsum : (dirB f ++ ⟨#[47]⟩ ++ r).size ≤ 140737488355328 := by
    have h1 : (⟨#[47]⟩ : ByteArray).size = 1 := rfl
    simp only [ByteArray.size_append, h1]
    omega
  have hq : reqS r.data.toList = (Lib.hasPrefix r.data.toList [46, 47] || Lib.hasPrefix r.data.toList [46, 46, 47]) := rfl
  cases hx : Lib.hasPrefix r.data.toList [46, 47]
  · cases hy : Lib.hasPrefix r.data.toList [46, 46, 47]
    · have HJ := jn_no f r (by rw [hq, hx, hy]; rfl)
      clear hq
      have tok1 : True := trivial
      go_enter Try.func13, Try.ntmps13
      go_wp2_with (first
        | (go_at_call 17; have _t := tok1; refine (Try.strings_HasPrefix _ _ _).mono ?_; rintro e w' ⟨rfl, rfl⟩; rw [hx]; clear tok1)
        | (go_at_call 17; refine (Try.strings_HasPrefix _ _ _).mono ?_; rintro e w' ⟨rfl, rfl⟩; rw [hy]))
      go_ret2
      exact ⟨ret_si HJ.1.symm HJ.2.symm, Below.refl _ _⟩
    · have HJ := jn_yes f r (by rw [hq, hx, hy]; rfl)
      clear hq
      have tok1 : True := trivial
      go_enter Try.func13, Try.ntmps13
      go_wp2_with (first
        | (go_at_call 17; have _t := tok1; refine (Try.strings_HasPrefix _ _ _).mono ?_; rintro e w' ⟨rfl, rfl⟩; rw [hx]; clear tok1)
        | (go_at_call 17; refine (Try.strings_HasPrefix _ _ _).mono ?_; rintro e w' ⟨rfl, rfl⟩; rw [hy])
        | (go_at_call 10; refine (dir_any _ _ (by omega)).mono ?_; rintro e W1 ⟨rfl, hb1⟩)
        | (go_at_call 8; refine (normal_any _ _ hsum).mono ?_; rintro e W2 ⟨rfl, hb2⟩))
      go_ret2
      exact ⟨rfl, hb1.trans (hb2.mono hb1.size)⟩
  · have HJ := jn_yes f r (by rw [hq, hx]; rfl)
    clear hq
    go_enter Try.func13, Try.ntmps13
    go_wp2_with (first
      | (go_at_call 17; refine (Try.strings_HasPrefix _ _ _).mono ?_; rintro e w' ⟨rfl, rfl⟩; rw [hx])
      | (go_at_call 10; refine (dir_any _ _ (by omega)).mono ?_; rintro e W1 ⟨rfl, hb1⟩)
      | (go_at_call 8; refine (normal_any _ _ hsum).mono ?_; rintro e W2 ⟨rfl, hb2⟩))
    go_ret2
    exact ⟨rfl, hb1.trans (hb2.mono hb1.size)⟩

end Go.Proofs.Ytlogohcfahmilaa
