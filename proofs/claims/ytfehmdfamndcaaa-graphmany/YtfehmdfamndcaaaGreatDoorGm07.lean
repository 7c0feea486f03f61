/- Own text. Normal and Join. Probes, and the examples (awake). Package graph: Probe. Keys of maps: texts, requests. -/
import Derived.Test.YtfehmdfamndcaaaGreatDoorGm06
import Derived.Laws.IdiomStrings
import Derived.Test.YtfehmdfamndcaaaGreatDoorGm04
import Derived.Test.YtfehmdfamndcaaaGreatDoorGm05
import Derived.Test.YtfehmdfamndcaaaGreatDoorGm02
namespace Go.Proofs.YtfehmdfamndcaaaGreatDoor.Pa
open Go.RowKit
set_option linter.unusedVariables false

set_option maxRecDepth 100000 in
theorem ret_si {a b : ByteArray} {i j : Int} (h : a = b) (h2 : i = j) : Ending.returned (.tuple #[.string a, .int .i64 i]) = .returned (.tuple #[.string b, .int .i64 j]) := by rw [h, h2]
def nrmB (s : ByteArray) : ByteArray := ⟨(nrm s.data.toList).1.toArray⟩
set_option maxRecDepth 100000 in
theorem nrmB_list (s : ByteArray) : (nrmB s).data.toList = (nrm s.data.toList).1 := by simp [nrmB]
set_option maxRecDepth 100000 in
theorem nrmB_size (s : ByteArray) : (nrmB s).size ≤ 200 := by rw [Lib.size_eq, nrmB_list]; exact nrm_size _
def nrmE (s : ByteArray) : Int := ((nrm s.data.toList).2 : Int)

set_option maxRecDepth 100000 in
theorem under_u8 : Tryz.prog.underlying 5 = some (.int .u8) := Tryz.underlying5

set_option maxHeartbeats 4000000 in
set_option maxRecDepth 100000 in
theorem normal_any (s : ByteArray) (w : World) (hs : s.size ≤ 140737488355328) : Calls Tryz.prog 11 #[.string s] w fun e w' =>
    e = .returned (.tuple #[.string (nrmB s), .int .i64 (nrmE s)]) ∧ Below w.heap.size w w' := by
  by_cases h0 : Lib.hasPrefix s.data.toList [47] = true
  · obtain ⟨r, hr⟩ : ∃ r, s.data.toList = 47 :: r := by
      unfold Lib.hasPrefix at h0
      obtain ⟨t, ht⟩ := List.isPrefixOf_iff_prefix.1 h0
      exact ⟨t, ht.symm⟩
    have hsz : s.size = r.length + 1 := by rw [Lib.size_eq, hr]; rfl
    have c1 : (1 : Int) ≤ ↑s.size := by omega
    have e1 : (s.extract 1 s.size).data.toList = r := by rw [extract_suf, hr]; rfl
    have hz1 : (s.extract 1 s.size).size < 140737488355328 := by rw [Lib.size_eq, e1]; omega
    have hn : nrm s.data.toList = fin (walkL [] (splitS r)) := by rw [hr]; rfl
    have HN : Hid (nrm s.data.toList = fin (walkL [] (splitS r)) ∧ (s.extract 1 s.size).data.toList = r) := ⟨hn, e1⟩
    clear hn e1 hr hsz
    go_enter Tryz.func11, Tryz.ntmps11
    go_wp2_with (go_at_call 17; refine (Tryz.strings_HasPrefix _ _ _).mono ?_; rintro e w' ⟨rfl, rfl⟩; rw [h0])
    refine (walk_any _ _ hz1).mono ?_
    rw [HN.out.2]
    rintro e W ⟨hb, ⟨hn, rfl⟩ | ⟨L, kv, hL, rfl, hk⟩⟩
    · have HX : Hid (nrm s.data.toList = ([], 30)) := by rw [HN.out.1, hn]; rfl
      clear hn HN
      go_wp2
      go_ret2
      exact ⟨ret_si (toList_ext (by rw [nrmB_list, HX.out])) (by unfold nrmE; rw [HX.out]; rfl), hb⟩
    · by_cases hL0 : L = []
      · subst hL0
        have HX : Hid (nrm s.data.toList = ([], 30)) := by rw [HN.out.1, hL]; rfl
        obtain ⟨A, c, rfl⟩ := row_form hk
        clear hL HN
        go_wp2
        go_ret2
        exact ⟨ret_si (toList_ext (by rw [nrmB_list, HX.out])) (by unfold nrmE; rw [HX.out]; rfl), hb⟩
      · have hpos : 0 < (joinS L).length := by
          obtain ⟨M, q, rfl⟩ := snoc_of hL0
          rw [joinS_snoc]; simp; omega
        obtain ⟨g, c, rfl, hgb, hnc⟩ := row_some hk hpos
        have hcv := run_convert_bytes_back (P := Tryz.prog) W 37 9 5 ⟨g, 0, none⟩ c (joinS L) Tryz.underlying37 under_u8 Tryz.underlying9 (fun j hj => by
          have h1 : (⟨g, 0, none⟩ : Addr).add j = ⟨g, j, none⟩ := by unfold Addr.add; split <;> simp_all
          rw [h1, hk.cellAt j (by omega)]
          simp [cellsB, hj])
        have HF : Hid (nrm s.data.toList = fin (some L) ∧ L ≠ []) := by rw [HN.out.1, hL]; exact ⟨rfl, hL0⟩
        clear hL HN hL0 hk
        obtain ⟨n, hn⟩ : ∃ n, n = (joinS L).length := ⟨_, rfl⟩
        rw [← hn] at hcv hpos hnc ⊢
        have HL : Hid (n = (joinS L).length) := hn
        clear hn
        by_cases hbig : 200 < n
        · have HX : Hid (nrm s.data.toList = ([], 31)) := by
            show _ = _
            rw [HF.out.1]
            have := HL.out
            simp [fin, HF.out.2, ← this, hbig]
          clear HF
          go_wp2
          go_ret2
          exact ⟨ret_si (toList_ext (by rw [nrmB_list, HX.out])) (by unfold nrmE; rw [HX.out]; rfl), hb⟩
        · have HX : Hid (nrm s.data.toList = (joinS L, 0)) := by
            show _ = _
            rw [HF.out.1]
            exact fin_join HF.out.2 (by rw [← HL.out]; omega)
          clear HF
          go_wp2
          go_ret2
          exact ⟨ret_si (toList_ext (by rw [nrmB_list, HX.out])) (by unfold nrmE; rw [HX.out]; rfl), hb⟩
  · have h1 : Lib.hasPrefix s.data.toList [47] = false := by simpa using h0
    have HX : Hid (nrm s.data.toList = ([], 30)) := by
      show _ = _
      cases hl : s.data.toList with
      | nil => rfl
      | cons c r =>
        by_cases hc : c = 47
        · rw [hl, hc] at h1; simp [Lib.hasPrefix] at h1
        · simp [nrm, hc]
    clear h0
    go_enter Tryz.func11, Tryz.ntmps11
    go_wp2_with (go_at_call 17; refine (Tryz.strings_HasPrefix _ _ _).mono ?_; rintro e w' ⟨rfl, rfl⟩; rw [h1])
    go_ret2
    exact ⟨ret_si (toList_ext (by rw [nrmB_list, HX.out])) (by unfold nrmE; rw [HX.out]; rfl), Below.refl _ _⟩

def jnB (f r : ByteArray) : ByteArray := ⟨(jn f.data.toList r.data.toList).1.toArray⟩
set_option maxRecDepth 100000 in
theorem jnB_list (f r : ByteArray) : (jnB f r).data.toList = (jn f.data.toList r.data.toList).1 := by simp [jnB]
set_option maxRecDepth 100000 in
theorem jnB_size (f r : ByteArray) : (jnB f r).size ≤ 200 := by rw [Lib.size_eq, jnB_list]; exact jn_size _ _
def jnE (f r : ByteArray) : Int := ((jn f.data.toList r.data.toList).2 : Int)

set_option maxRecDepth 100000 in
theorem append_list (a b : ByteArray) : (a ++ b).data.toList = a.data.toList ++ b.data.toList := by
  rw [ByteArray.data_append, Array.toList_append]
set_option maxRecDepth 100000 in
theorem sum_list (f r : ByteArray) : (dirB f ++ ⟨#[47]⟩ ++ r).data.toList = dirS f.data.toList ++ 47 :: r.data.toList := by
  rw [append_list, append_list, dirB_list, List.append_assoc]
  rfl
set_option maxRecDepth 100000 in
theorem jn_yes (f r : ByteArray) (h : reqS r.data.toList = true) : nrmB (dirB f ++ ⟨#[47]⟩ ++ r) = jnB f r ∧ nrmE (dirB f ++ ⟨#[47]⟩ ++ r) = jnE f r := by
  unfold nrmB jnB nrmE jnE
  rw [sum_list]
  simp [jn, h]
set_option maxRecDepth 100000 in
theorem jn_no (f r : ByteArray) (h : reqS r.data.toList = false) : jnB f r = ⟨#[]⟩ ∧ jnE f r = 30 := by
  unfold jnB jnE
  simp [jn, h]

set_option maxHeartbeats 4000000 in
set_option maxRecDepth 100000 in
theorem join_any (f r : ByteArray) (w : World) (hs : f.size + r.size < 140737488355328) : Calls Tryz.prog 35 #[.string f, .string r] w fun e w' =>
    e = .returned (.tuple #[.string (jnB f r), .int .i64 (jnE f r)]) ∧ Below w.heap.size w w' := by
  have hd := dirB_size f
  have hsum : (dirB f ++ ⟨#[47]⟩ ++ r).size ≤ 140737488355328 := by
    have h1 : (⟨#[47]⟩ : ByteArray).size = 1 := rfl
    simp only [ByteArray.size_append, h1]
    omega
  have hq : reqS r.data.toList = (Lib.hasPrefix r.data.toList [46, 47] || Lib.hasPrefix r.data.toList [46, 46, 47]) := rfl
  cases hx : Lib.hasPrefix r.data.toList [46, 47]
  · cases hy : Lib.hasPrefix r.data.toList [46, 46, 47]
    · have HJ := jn_no f r (by rw [hq, hx, hy]; rfl)
      clear hq
      have tok1 : True := trivial
      go_enter Tryz.func35, Tryz.ntmps35
      go_wp2_with (first
        | (go_at_call 17; have _t := tok1; refine (Tryz.strings_HasPrefix _ _ _).mono ?_; rintro e w' ⟨rfl, rfl⟩; rw [hx]; clear tok1)
        | (go_at_call 17; refine (Tryz.strings_HasPrefix _ _ _).mono ?_; rintro e w' ⟨rfl, rfl⟩; rw [hy]))
      go_ret2
      exact ⟨ret_si HJ.1.symm HJ.2.symm, Below.refl _ _⟩
    · have HJ := jn_yes f r (by rw [hq, hx, hy]; rfl)
      clear hq
      have tok1 : True := trivial
      go_enter Tryz.func35, Tryz.ntmps35
      go_wp2_with (first
        | (go_at_call 17; have _t := tok1; refine (Tryz.strings_HasPrefix _ _ _).mono ?_; rintro e w' ⟨rfl, rfl⟩; rw [hx]; clear tok1)
        | (go_at_call 17; refine (Tryz.strings_HasPrefix _ _ _).mono ?_; rintro e w' ⟨rfl, rfl⟩; rw [hy])
        | (go_at_call 48; refine (dir_any _ _ (by omega)).mono ?_; rintro e W1 ⟨rfl, hb1⟩)
        | (go_at_call 11; refine (normal_any _ _ hsum).mono ?_; rintro e W2 ⟨rfl, hb2⟩))
      go_ret2
      exact ⟨rfl, hb1.trans (hb2.mono hb1.size)⟩
  · have HJ := jn_yes f r (by rw [hq, hx]; rfl)
    clear hq
    go_enter Tryz.func35, Tryz.ntmps35
    go_wp2_with (first
      | (go_at_call 17; refine (Tryz.strings_HasPrefix _ _ _).mono ?_; rintro e w' ⟨rfl, rfl⟩; rw [hx])
      | (go_at_call 48; refine (dir_any _ _ (by omega)).mono ?_; rintro e W1 ⟨rfl, hb1⟩)
      | (go_at_call 11; refine (normal_any _ _ hsum).mono ?_; rintro e W2 ⟨rfl, hb2⟩))
    go_ret2
    exact ⟨rfl, hb1.trans (hb2.mono hb1.size)⟩

end Go.Proofs.YtfehmdfamndcaaaGreatDoor.Pa
namespace Go.Proofs.YtfehmdfamndcaaaGreatDoor.Pa
open Go.RowKit
set_option linter.unusedVariables false

/-- texts as cells. -/
def cellsT (l : List Bs) : List Value := l.map fun b => .string ⟨b.toArray⟩
set_option maxRecDepth 100000 in
theorem cellsT_length (l : List Bs) : (cellsT l).length = l.length := by simp [cellsT]
abbrev Texts (w : World) (base : Nat) (v : Value) (l : List Bs) : Prop := w.ownsRow base 9 1 v l.length (cellsT l)
set_option maxRecDepth 100000 in
theorem texts_app {w : World} {base : Nat} {v : Value} {l : List Bs} {b : ByteArray} {x : Bs} (h : w.ownsRow base 9 1 v (l.length + 1) (cellsT l ++ [.string b])) (hb : b.data.toList = x) : Texts w base v (l ++ [x]) := by
  have e1 : (l ++ [x]).length = l.length + 1 := by simp
  have e2 : cellsT (l ++ [x]) = cellsT l ++ [.string b] := by
    have : b = ⟨x.toArray⟩ := toList_ext (by simp [hb])
    rw [this]
    simp [cellsT]
  unfold Texts
  rw [e1, e2]
  exact h

def prbN (p : Bs) (k : Nat) : List Bs := ((endS.take k).map (p ++ ·)).filter fun x => decide (x.length ≤ 200)
set_option maxRecDepth 100000 in
theorem prbN_len (p : Bs) (k : Nat) : (prbN p k).length ≤ 3 := by
  have h1 : (prbN p k).length ≤ ((endS.take k).map (p ++ ·)).length := List.length_filter_le _ _
  simp only [List.length_map, List.length_take] at h1
  have h2 : endS.length = 3 := rfl
  omega
set_option maxRecDepth 100000 in
theorem prbN_yes (p e : Bs) (k : Nat) (h : endS[k]? = some e) (hl : p.length + e.length ≤ 200) : prbN p (k + 1) = prbN p k ++ [p ++ e] := by
  unfold prbN
  rw [List.take_add_one, h]
  simp [List.filter_append, hl]
set_option maxRecDepth 100000 in
theorem prbN_no (p e : Bs) (k : Nat) (h : endS[k]? = some e) (hl : ¬ p.length + e.length ≤ 200) : prbN p (k + 1) = prbN p k := by
  unfold prbN
  rw [List.take_add_one, h]
  simp [List.filter_append]
  omega
set_option maxRecDepth 100000 in
theorem info_str : (Tryz.prog.info? 9).map (fun i => (i.zero, i.size, i.bytes)) = some (some (.string ByteArray.empty), 1, 16) := by kernel_rfl

set_option maxHeartbeats 4000000 in
set_option maxRecDepth 100000 in
theorem probes_any (s : ByteArray) (w : World) (hs : s.size ≤ 140737488355328) : Calls Tryz.prog 21 #[.string s] w fun e w' =>
    ∃ v, e = .returned v ∧ Texts w' w.heap.size v (prb s.data.toList) ∧ Below w.heap.size w w' := by
  obtain ⟨i0, hi, hz0, hz1, hz2⟩ := info_parts info_str
  go_enter Tryz.func21, Tryz.ntmps21
  go_wp2
  go_loopw [3, 7] (fun v3 v7 W => ∃ k : Nat, k ≤ 3 ∧ v7 = .int .i64 k ∧ Texts W w.heap.size v3 (prbN s.data.toList k) ∧ Below w.heap.size w W) (fun _ v7 _ => 3 - (intOf v7).toNat)
  case atStart => exact ⟨0, by omega, rfl, World.ownsRow_nil _ _ _ _, Below.refl _ _⟩
  case round =>
    obtain ⟨k, hk, rfl, ht, hb⟩ := hrel
    by_cases hk3 : k = 3
    · subst hk3
      go_wp2
      go_ret
      exact ⟨_, rfl, ht, hb⟩
    · have hln := prbN_len s.data.toList k
      have h3 : k = 0 ∨ k = 1 ∨ k = 2 := by omega
      clear hk3 hk
      have hix : ∀ W, (Instr.index 91 (.agg #[.string ⟨#[]⟩, .string ⟨#[46, 116, 115]⟩, .string ⟨#[47, 105, 110, 100, 101, 120, 46, 116, 115]⟩]) (.int .i64 (k : Int))).run Tryz.prog W = .ok (.string ⟨(endS.getD k []).toArray⟩) W := fun W => by
        rcases h3 with rfl | rfl | rfl
        · kernel_rfl
        · kernel_rfl
        · kernel_rfl
      have hk4 : (k : Int) < 3 := by omega
      have hE : endS[k]? = some (endS.getD k []) := by rcases h3 with rfl | rfl | rfl <;> rfl
      have hEs : (⟨(endS.getD k []).toArray⟩ : ByteArray).size ≤ 9 := by rcases h3 with rfl | rfl | rfl <;> decide
      have hEd : (⟨(endS.getD k []).toArray⟩ : ByteArray).data.toList = endS.getD k [] := by simp
      have HE : Hid (endS[k]? = some (⟨(endS.getD k []).toArray⟩ : ByteArray).data.toList) := by rw [hEd]; exact hE
      clear hE hEd h3
      generalize (⟨(endS.getD k []).toArray⟩ : ByteArray) = E at *
      go_wp2_with (first
        | (go_at_call 13; refine (clone_any _ _ (by simp; omega)).mono ?_; rintro e W1 ⟨rfl, hb1⟩)
        | (at_builtin; refine wpList_append_own _ rfl _ _ 78 rfl w.heap.size 9 i0 (.string ByteArray.empty) 1 16 Tryz.underlying78 hi hz0 hz1 hz2 rfl (by decide) _ _ _ rfl ((ht.kept (row := none) ⟨hb1.os, hb1.tape, hb1.output, hb1.size, fun k hk _ => hb1.block k hk⟩ (by cases hv : Value.ownBlock _ <;> simp)).alloc _) ⟨_, 0, none⟩ 1 1 [_] rfl rfl (cell_one_new _ _ _) (fun x hx => by simp at hx; subst hx; rfl) (by unfold maxLen; omega) (by omega) (by have h1 := hb.size; have h2 := hb1.size; simp; omega) ?_; intro v1 W3 ho1 hg1 hn1))
      · have hl : (s.size : Int) + (E.size : Int) ≤ 200 := by assumption
        go_roundw
        case rel =>
          have hb2 : Below w.heap.size w W1 := hb.trans (hb1.mono hb.size)
          refine ⟨k + 1, by omega, by simp, ?_, ?_⟩
          · rw [prbN_yes _ _ _ HE.out (by rw [← Lib.size_eq, ← Lib.size_eq]; omega)]
            exact texts_app ho1 (append_list s E)
          · exact (hb2.alloc hb2.size _).grown hg1 (by have := hb2.size; simp; omega) (fun j hj => (ht.lt j hj).1)
        case measure => simp [intOf]; omega
      · have hl : 200 < (s.size : Int) + (E.size : Int) := by assumption
        go_roundw
        case rel =>
          refine ⟨k + 1, by omega, by simp, ?_, hb⟩
          rw [prbN_no _ _ _ HE.out (by rw [← Lib.size_eq, ← Lib.size_eq]; omega)]
          exact ht
        case measure => simp [intOf]; omega

set_option maxRecDepth 100000 in
theorem awake_n : nrmB ⟨#[47, 97, 47, 47, 98, 47, 46, 47, 46, 46, 47, 99]⟩ = ⟨#[47, 97, 47, 99]⟩ ∧ nrmE ⟨#[47, 97, 47, 47, 98, 47, 46, 47, 46, 46, 47, 99]⟩ = 0 := by decide +kernel
set_option maxRecDepth 100000 in
theorem awake_j : jnB ⟨#[47, 120, 47, 121, 46, 116, 115]⟩ ⟨#[46, 46, 47, 122]⟩ = ⟨#[47, 122]⟩ ∧ jnE ⟨#[47, 120, 47, 121, 46, 116, 115]⟩ ⟨#[46, 46, 47, 122]⟩ = 0 := by decide +kernel
set_option maxRecDepth 100000 in
theorem awake_p : (prb [47, 97]).length = 3 := by decide +kernel

end Go.Proofs.YtfehmdfamndcaaaGreatDoor.Pa
namespace Go.Proofs.YtfehmdfamndcaaaGreatDoor
open Go.RowKit
set_option linter.unusedVariables false
set_option linter.unusedSimpArgs false

def baL (l : List UInt8) : ByteArray := ⟨l.toArray⟩
/-- the first of the paths that are probed for which f holds. -/
def prbF (f : ByteArray → Bool) (p : ByteArray) : Option ByteArray := ((Pa.prb p.data.toList).map baL).find? f
theorem find_at {α : Type} {f : α → Bool} : ∀ {l : List α} {k : Nat} (h : k < l.length), (∀ j (hj : j < l.length), j < k → f l[j] = false) → f l[k] = true → l.find? f = some l[k]
  | x :: l, 0, h, _, hk => by rw [List.find?_cons]; simp only [List.getElem_cons_zero] at hk ⊢; rw [hk]
  | x :: l, k + 1, h, hz, hk => by
    have h0 : f x = false := hz 0 (by simp) (by omega)
    rw [List.find?_cons, h0]
    exact find_at (l := l) (by simpa using h) (fun j hj hjk => hz (j + 1) (by simpa using hj) (by omega)) hk
theorem find_no {α : Type} {f : α → Bool} {l : List α} (h : ∀ j (hj : j < l.length), f l[j] = false) : l.find? f = none := by
  rw [List.find?_eq_none]
  intro x hx
  obtain ⟨j, hj, rfl⟩ := List.getElem_of_mem hx
  rw [h j hj]
  decide
theorem prb_small {p : List UInt8} {x : List UInt8} (h : x ∈ Pa.prb p) : x.length ≤ 200 := by
  unfold Pa.prb at h
  simpa using (List.mem_filter.1 h).2
set_option maxRecDepth 100000 in
set_option maxHeartbeats 4000000 in
theorem probe_of (t : Value) (f : ByteArray → Bool) (p : ByteArray) (w : World) (hp : p.size ≤ 140737488355328) (HH : ∀ W q, Below w.heap.size w W → q.size ≤ 200 → Calls Tryz.prog 22 #[t, .string q] W fun e w' => e = .returned (.bool (f q)) ∧ Below W.heap.size W w') :
    Calls Tryz.prog 14 #[t, .string p] w fun e w' => e = .returned (.tuple #[.string ((prbF f p).getD ⟨#[]⟩), .bool (prbF f p).isSome]) ∧ Below w.heap.size w w' := by
  have CP := Pa.probes_any p w hp
  have HHd : Hid (∀ W q, Below w.heap.size w W → q.size ≤ 200 → Calls Tryz.prog 22 #[t, .string q] W fun e w' => e = .returned (.bool (f q)) ∧ Below W.heap.size W w') := HH
  clear HH
  obtain ⟨l, hl⟩ : ∃ l, Pa.prb p.data.toList = l := ⟨_, rfl⟩
  have hls : Hid (∀ x ∈ l, x.length ≤ 200) := fun x hx => prb_small (by rw [hl]; exact hx)
  have hl3 : l.length ≤ 3 := by rw [← hl]; unfold Pa.prb; exact Nat.le_trans (List.length_filter_le _ _) (by simp [Pa.endS])
  rw [hl] at CP
  obtain ⟨res, hres⟩ : ∃ r, prbF f p = r := ⟨_, rfl⟩
  have HR : Hid ((l.map baL).find? f = res) := by show _ = _; rw [← hl]; exact hres
  rw [hres]
  clear hres hl
  go_enter Tryz.func14, Tryz.ntmps14
  go_wp2_with fail
  go_at_call 21
  refine CP.mono ?_
  rintro e W1 ⟨v, rfl, hT, b1⟩
  obtain ⟨av, cv, rfl⟩ := Pa.row_form hT
  go_wp2
  go_loopw [11] (fun i wr => ∃ k : Nat, i = .int .i64 (k : Nat) ∧ k ≤ l.length ∧ Below W1.heap.size W1 wr ∧ Hid (∀ j (hj : j < (l.map baL).length), j < k → f (l.map baL)[j] = false)) (fun i _ => l.length - (intOf i).toNat)
  case atStart => exact ⟨0, rfl, Nat.zero_le _, Below.refl _ _, fun j _ hj => absurd hj (Nat.not_lt_zero _)⟩
  case round =>
    obtain ⟨k, rfl, hk, bel, HZ⟩ := hrel
    have bw := b1.trans (bel.mono b1.size)
    by_cases hkl : k < l.length
    · have hT2 := row_bel hT bel
      obtain ⟨g, c, e, hg, hc⟩ := Pa.row_some hT2 (by omega)
      cases e
      have hcell : wr.cell? ⟨g, 0 + k, none⟩ = some (.string (baL l[k])) := by
        have := World.ownsRow.cellAt hT2 k (by omega)
        rw [Nat.zero_add, this]
        simp [Pa.cellsT, baL, hkl]
      have hsz : (baL l[k]).size ≤ 200 := by have := hls.out _ (List.getElem_mem hkl); simpa [baL, ByteArray.size] using this
      have HQ : Hid (f (baL l[k]) = true → some (baL l[k]) = res) := fun q => by
        have hm : (l.map baL)[k]'(by simpa using hkl) = baL l[k] := by simp
        rw [← HR.out, find_at (k := k) (by simpa using hkl) HZ.out (by rw [hm]; exact q), hm]
      have HZ' : Hid (f (baL l[k]) = false → ∀ j (hj : j < (l.map baL).length), j < k + 1 → f (l.map baL)[j] = false) := fun q j hj hjk => by
        by_cases e : j = k
        · subst e; simpa using q
        · exact HZ.out j hj (by omega)
      have C := HHd.out wr (baL l[k]) bw hsz
      generalize baL l[k] = q at *
      simp only [Nat.zero_add] at hcell
      clear hT2 HZ
      cases hf : f q with
      | true =>
        rw [hf] at C
        obtain rfl := HQ.out hf
        go_wp2_with (go_at_call 22; refine C.mono ?_; rintro e W2 ⟨rfl, b2⟩)
        go_ret2
        exact ⟨rfl, bw.trans (b2.mono bw.size)⟩
      | false =>
        rw [hf] at C
        have HZ2 : Hid (∀ j (hj : j < (l.map baL).length), j < k + 1 → f (l.map baL)[j] = false) := HZ'.out hf
        go_wp2_with (go_at_call 22; refine C.mono ?_; rintro e W2 ⟨rfl, b2⟩)
        go_roundw
        case rel => exact ⟨k + 1, by simp, by omega, bel.trans (b2.mono bel.size), HZ2⟩
        case measure => simp [intOf]; omega
    · have hn : ∀ j (hj : j < (l.map baL).length), f (l.map baL)[j] = false := fun j hj => HZ.out j hj (Nat.lt_of_lt_of_le (by simpa using hj) (Nat.le_of_not_lt hkl))
      obtain rfl : none = res := by rw [← HR.out]; exact (find_no hn).symm
      clear hn
      go_wp2
      go_ret2
      exact ⟨rfl, bw⟩
/-- a table's Probe. -/
theorem probe_any (w : World) (tb mb : Nat) (L : Fls) (p : ByteArray) (h : Vf.Tab w tb mb L) (hp : p.size ≤ 140737488355328) :
    Calls Tryz.prog 14 #[.pointer (some ⟨tb, 0, none⟩), .string p] w fun e w' => e = .returned (.tuple #[.string ((prbF (fun q => hasP q L) p).getD ⟨#[]⟩), .bool (prbF (fun q => hasP q L) p).isSome]) ∧ Below w.heap.size w w' :=
  probe_of _ _ p w hp (fun W q b hq => Vf.has_any W tb mb L q (h.below b h.ltT h.ltM) (by omega))
end Go.Proofs.YtfehmdfamndcaaaGreatDoor
namespace Go.Proofs.YtfehmdfamndcaaaGreatDoor
open Go.RowKit Go.MapKept
set_option linter.unusedVariables false
set_option linter.unusedSimpArgs false

theorem ba_eq (x y : ByteArray) : (x == y) = decide (x = y) := by
  rw [Bool.eq_iff_iff]
  simp only [decide_eq_true_eq]
  obtain ⟨⟨x⟩⟩ := x
  obtain ⟨⟨y⟩⟩ := y
  show ((⟨x⟩ : Array UInt8) == ⟨y⟩) = true ↔ _
  simp

theorem keyOk_plain {κ : Type} {P : Program} {t : TypeId} {d : TypeDesc} (hd : P.underlying t = some d) {ek : κ → Value} (hi : ∀ {a b : κ}, ek a = ek b → a = b) (h : ∀ k, IsKey d (ek k)) : KeyOk P t ek (fun _ => True) where
  inj := hi
  check w em k _ := run_checkKey hd (h k) em 9999
  find w x _ es hes := by
    have hks : ∀ y ∈ es, IsKey d y.key := fun y hy => by
      obtain ⟨k, _, e⟩ := hes y hy
      rw [e]; exact h k
    rcases findNow_spec (h x) es 0 hks with ⟨h1, h2⟩ | ⟨j, e0, h1, h2, h3⟩
    · exact Or.inl ⟨run_findKey hd h1, h2⟩
    · exact Or.inr ⟨j, e0, by simpa using run_findKey hd h1, h2, h3⟩
  stays w k _ := run_keyThatStays (h k)
theorem keyI : KeyOk Tryz.prog 3 (fun k : Int => .int .i64 k) (fun _ => True) := keyOk_plain Tryz.underlying3 (fun h => by injection h) (fun k => rfl)
theorem keyTX : KeyOk Tryz.prog 9 (fun k : ByteArray => .string k) (fun _ => True) := keyOk_plain Tryz.underlying9 (fun h => by injection h) (fun k => trivial)
abbrev Qn := ByteArray × ByteArray
def qv (q : Qn) : Value := .agg #[.string q.1, .string q.2]
theorem q_struct : Tryz.prog.underlying 52 = some (.struct (Tryz.prog.fieldsOf 52)) := by kernel_rfl
theorem q_fields : (Tryz.prog.fieldsOf 52).toList = [{ name := "from", type := 9, offset := 0, embedded := false, tag := "", pkgPath := "gusset/graph", byteOffset := 0 }, { name := "text", type := 9, offset := 1, embedded := false, tag := "", pkgPath := "gusset/graph", byteOffset := 16 }] := by kernel_rfl
theorem q_under : Tryz.prog.underlying 52 = some (.struct #[{ name := "from", type := 9, offset := 0, embedded := false, tag := "", pkgPath := "gusset/graph", byteOffset := 0 }, { name := "text", type := 9, offset := 1, embedded := false, tag := "", pkgPath := "gusset/graph", byteOffset := 16 }]) := by kernel_rfl
theorem q_held : Tryz.prog.stoodInHeld 52 = false := by kernel_rfl
theorem q_eq (W : World) (p q : Qn) : (Op.equal 52 (qv p) (qv q)).run Tryz.prog W = .ok (decide (p = q)) W := by
  have a9 := Tryz.isAgg9
  have u9 := Tryz.underlying9
  unfold qv Op.equal
  rw [show Op.maxDepth = 9999 + 1 from rfl, run_equalIn_struct W 9999 _ _ _ q_struct q_held, q_fields]
  have e : decide (p = q) = (p.1.toList == q.1.toList && p.2.toList == q.2.toList) := by
    rw [← beq_toListBytes, ← beq_toListBytes, ba_eq, ba_eq, Bool.eq_iff_iff]
    obtain ⟨a, b⟩ := p
    obtain ⟨c, d⟩ := q
    simp
  rw [e]
  cases e1 : (p.1.toList == q.1.toList) <;> cases e2 : (p.2.toList == q.2.toList) <;> simp [Op.eqFields, go_sem, a9, u9, e1, e2]
theorem findAsk (W : World) (x : Qn) : ∀ (es : List MapEntry) (i : Nat), (∀ e ∈ es, ∃ k, e.key = qv k) → ((Instr.findAsking 52 (qv x) es i).run Tryz.prog W = .ok none W ∧ ∀ e ∈ es, e.key ≠ qv x) ∨ ∃ j e, (Instr.findAsking 52 (qv x) es i).run Tryz.prog W = .ok (some (i + j, e.val)) W ∧ es[j]? = some e ∧ e.key = qv x
  | [], i, _ => Or.inl ⟨by simp [Instr.findAsking], by simp⟩
  | e :: es, i, h => by
    obtain ⟨k, hk⟩ := h e (by simp)
    by_cases q : x = k
    · subst q
      exact Or.inr ⟨0, e, by simp [Instr.findAsking, hk, q_eq, Result.andThen], rfl, hk⟩
    · have r : (Instr.findAsking 52 (qv x) (e :: es) i).run Tryz.prog W = (Instr.findAsking 52 (qv x) es (i + 1)).run Tryz.prog W := by
        simp [Instr.findAsking, hk, q_eq, Result.andThen, q]
      rw [r]
      rcases findAsk W x es (i + 1) (fun e' he => h e' (by simp [he])) with ⟨h1, h2⟩ | ⟨j, e0, h1, h2, h3⟩
      · refine Or.inl ⟨h1, fun e' he => ?_⟩
        rcases List.mem_cons.1 he with rfl | he
        · rw [hk]
          intro e2
          unfold qv at e2
          simp only [Value.agg.injEq, Array.mk.injEq, List.cons.injEq, Value.int.injEq, Value.string.injEq, true_and, and_true] at e2
          exact q (Prod.ext e2.1.symm e2.2.symm)
        · exact h2 e' he
      · exact Or.inr ⟨j + 1, e0, by rw [h1, show i + 1 + j = i + (j + 1) by omega], by simpa using h2, h3⟩
theorem keyQ : KeyOk Tryz.prog 52 qv (fun _ => True) where
  inj := fun {a b} e2 => by
    unfold qv at e2
    simp only [Value.agg.injEq, Array.mk.injEq, List.cons.injEq, Value.int.injEq, Value.string.injEq, true_and, and_true] at e2
    exact Prod.ext e2.1 e2.2
  check w em k _ := by
    have a9 := Tryz.isAgg9
    have u9 := Tryz.underlying9
    have k2 : ∀ (W : World) (z : ByteArray), (Instr.checkKey em 9999 9 (.string z)).run Tryz.prog W = .ok () W := fun W z => run_checkKey u9 (k := .string z) trivial em 9998
    unfold qv
    rw [show (10000 : Nat) = 9999 + 1 from rfl]
    unfold Instr.checkKey
    simp only [Sem.run_bind, run_underlying q_under, Result.andThen]
    generalize (9999 : Nat) = N at *
    simp [go_sem, a9, k2]
  find w x _ es hes := by
    cases es with
    | nil => exact Or.inl ⟨by simp [Instr.findKey, run_underlying q_under, Result.andThen, Instr.findNow], by simp⟩
    | cons e es =>
      have r : (Instr.findKey 52 (qv x) (e :: es)).run Tryz.prog w = (Instr.findAsking 52 (qv x) (e :: es) 0).run Tryz.prog w := by
        obtain ⟨k, _, hk⟩ := hes e (by simp)
        simp [Instr.findKey, run_underlying q_under, Result.andThen, Instr.findNow, hk, qv, Instr.sameNow]
      rw [r]
      rcases findAsk w x (e :: es) 0 (fun e' he => by obtain ⟨k, _, hk⟩ := hes e' he; exact ⟨k, hk⟩) with h | ⟨j, e0, h1, h2, h3⟩
      · exact Or.inl h
      · exact Or.inr ⟨j, e0, by simpa using h1, h2, h3⟩
  stays w k _ := by
    have : Instr.sameBits 10000 (qv k) (qv k) = true := by simp [qv, Instr.sameBits, ba_eq]
    simp [Instr.keyThatStays, this]

end Go.Proofs.YtfehmdfamndcaaaGreatDoor
