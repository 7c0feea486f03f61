/- Own text. What every statement of the stage begins with holds: the chapter's examples. The statements' own walk: names of both sides. The statements' own walk: a name that was made tells its module. The package-level variables as they are laid: strconv's two errors, the words; a world for the witness. -/
import Derived.Test.YtpnljjcdlkjfhaaGreatDoorRv42
import Derived.Test.YtpnljjcdlkjfhaaGreatDoorCards
import Derived.Test.YtpnljjcdlkjfhaaGreatDoorTie
import Derived.ProofKit
import Derived.OpenShut
import Derived.Deep.DeepHandedRow
import Derived.Lib.LaidU8T
import Derived.Shelf.Vars
import Derived.Stop.LaidErr
import Derived.Carry
import Derived.Lay
set_option linter.unusedVariables false
set_option linter.unusedSimpArgs false
namespace Go.Proofs.YtpnljjcdlkjfhaaGreatDoor
open Go.RowKit
theorem EvR.bel {w w' : World} (h : EvR w) (b : Below w.heap.size w w') : EvR w' := ⟨h.s.bel b, h.e.bel b⟩
theorem nm_x3 : nmL 3 [120] = [120, 36, 51] := by decide +kernel
theorem nm_0 : nmL 0 [] = [36, 48] := by decide +kernel
theorem bk_x3 : AnsB [120, 36, 51] (.returned (.tuple #[.int .i64 3, .string ⟨#[120]⟩, .bool true])) := .inl ⟨3, [120], ⟨by decide +kernel, by decide, by decide +kernel⟩, rfl⟩
set_option maxRecDepth 100000 in
set_option maxHeartbeats 8000000 in
theorem awake_any (w : World) (h : EvR w) : Calls Tryz.prog 11 #[] w fun e w' => e = .returned (.bool true) ∧ Below w.heap.size w w' := by
  have HE : Hid (∀ X, Below w.heap.size w X → EvR X) := fun X b => h.bel b
  have CB : ∀ X, Below w.heap.size w X → Calls Tryz.prog 5 #[.string ⟨#[120, 36, 51]⟩] X fun e w' => e = .returned (.tuple #[.int .i64 3, .string ⟨#[120]⟩, .bool true]) ∧ Below X.heap.size X w' := fun X b =>
    (backP_any ⟨#[120, 36, 51]⟩ X (by decide) (h.bel b).e (h.bel b).s).mono fun e w' k => ⟨k.1.same bk_x3, k.2⟩
  have CN : ∀ X, Calls Tryz.prog 7 #[.int .i64 3, .string ⟨#[120]⟩] X fun e w' => e = .returned (.string ⟨#[120, 36, 51]⟩) ∧ Below X.heap.size X w' := fun X => by
    have := nameP_any 3 ⟨#[120]⟩ X (by omega) (by omega) (by decide)
    rw [show nmL 3 (⟨#[120]⟩ : ByteArray).data.toList = [120, 36, 51] from nm_x3] at this
    exact this
  have CS : ∀ X, Calls Tryz.prog 9 #[.int .i64 0] X fun e w' => e = .returned (.string ⟨#[36, 48]⟩) ∧ Below X.heap.size X w' := fun X => by
    have := spaceP_any 0 X (by omega) (by omega)
    rw [nm_0] at this
    exact this
  have HCB : Hid _ := CB
  clear CB h
  have b0 : Hid (Below w.heap.size w (w.alloc (.cells #[.string pthA, .string srcB] 47))) := bel_a _ _
  have f0 : Hid ((w.alloc (.cells #[.string pthA, .string srcB] 47)).ownsRow 0 47 2 (.slice (some ⟨w.heap.size, 0, none⟩) 1 1) 1 (Vf.flat tabA)) := World.ownsRow_lit w #[.string pthA, .string srcB] 1 (Nat.zero_le _) (by unfold maxLen; omega) rfl
  go_enter Tryz.func11, Tryz.ntmps11
  go_wp2_with fail
  go_at_call 20
  refine (linked_src f0.out).mono ?_
  rintro e W1 ⟨gm, cm, gs, cs, gE, cE, g, o, c, gt, ct, ge, ce, gf, cf, rfl, n1, b1⟩
  have N1 : Hid _ := n1
  have B1 : Hid (Below w.heap.size w W1) := b0.out.trans (b1.mono b0.out.size)
  clear n1 b1
  go_wp2_with fail
  go_at_call 21
  have B2 : Hid (Below w.heap.size w (W1.alloc (lnO gm cm gs cs gE cE (.slice (some ⟨gf, 0, none⟩) 1 cf)))) := B1.out.alloc B1.out.size _
  have N2 : Hid _ := N1.out.bel (bel_a W1 (lnO gm cm gs cs gE cE (.slice (some ⟨gf, 0, none⟩) 1 cf)))
  generalize W1.alloc (lnO gm cm gs cs gE cE (.slice (some ⟨gf, 0, none⟩) 1 cf)) = W2 at *
  obtain ⟨g2, o2, c2, a2, ca, _, hd⟩ := N2.out.md.d
  refine (item_one ⟨N2.out.md.ks, N2.out.s1⟩ hd).mono ?_
  rintro e W3 ⟨⟨n, rfl⟩, b3⟩
  have B3 : Hid (Below w.heap.size w W3) := B2.out.trans (b3.mono B2.out.size)
  clear b3 hd
  obtain ⟨W4, hW4⟩ : ∃ X, W3.alloc (.cells #[.int .i64 40, .string ⟨#[100, 101, 102, 97, 117, 108, 116, 36, 48]⟩, .int .i64 1, .slice (some ⟨n, 0, none⟩) 2 2] 51) = X := ⟨_, rfl⟩
  have B4 : Hid (Below w.heap.size w W4) := by show Below _ _ _; rw [← hW4]; exact B3.out.alloc B3.out.size _
  have m4 : W4.heap[W3.heap.size]? = some (.cells #[.int .i64 40, .string ⟨#[100, 101, 102, 97, 117, 108, 116, 36, 48]⟩, .int .i64 1, .slice (some ⟨n, 0, none⟩) 2 2] 51) := by rw [← hW4]; exact hnew _ rfl
  have s4 : W3.heap.size < W4.heap.size := (Array.getElem?_eq_some_iff.1 m4).1
  have M4 : Hid _ := m4
  clear m4
  go_wp2_with fail
  go_at_call 5
  refine (HCB.out _ B4.out).mono ?_
  rintro e W5 ⟨rfl, b5⟩
  have B5 : Hid (Below W4.heap.size W4 W5) := b5
  clear b5 hW4
  go_wp2_with fail
  go_at_call 7
  refine (CN _).mono ?_
  rintro e W6 ⟨rfl, b6⟩
  have B6 : Hid (Below W4.heap.size W4 W6) := B5.out.trans (b6.mono B5.out.size)
  clear b6
  go_wp2_with fail
  go_at_call 9
  refine (CS _).mono ?_
  rintro e W7 ⟨rfl, b7⟩
  have B7 : Hid (Below W4.heap.size W4 W7) := B6.out.trans (b7.mono B6.out.size)
  clear b7
  obtain ⟨⟨q0, q1, q2, q3⟩, _⟩ := box4 ((B7.out.block _ s4).trans M4.out)
  go_wp2
  go_ret
  exact ⟨rfl, B4.out.trans (B7.out.mono B4.out.size)⟩
set_option maxRecDepth 100000 in
set_option maxHeartbeats 8000000 in
theorem has_any36 (nm : ByteArray) (w : World) (hn : nm.size ≤ 4194304) : Calls Tryz.prog 13 #[.string nm] w fun e w' => e = .returned (.bool (nm.data.toList.any (· == 36))) ∧ w' = w := by
  obtain ⟨res, hr⟩ : ∃ r, nm.data.toList.any (· == 36) = r := ⟨_, rfl⟩
  have HR : Hid (nm.data.toList.any (· == 36) = res) := hr
  rw [hr]
  clear hr
  go_enter Tryz.func13, Tryz.ntmps13
  go_wp2_with fail
  go_loopw [3] (fun i wq => ∃ j : Nat, i = .int .i64 (j : Nat) ∧ j ≤ nm.size ∧ wq = w ∧ Hid (∀ q, q < j → nm.data.toList[q]? ≠ some 36)) (fun i _ => nm.size - (intOf i).toNat)
  case atStart => exact ⟨0, rfl, Nat.zero_le _, rfl, fun q h => absurd h (Nat.not_lt_zero _)⟩
  case round =>
    obtain ⟨j, rfl, hj, rfl, HJ⟩ := hrel
    by_cases hjl : j < nm.size
    · have hat : nm.data.toList[j]? = some nm[j] := by
        rw [Array.getElem?_toList]
        exact Array.getElem?_eq_getElem hjl
      have HAT : Hid _ := hat
      clear hat
      by_cases hb : nm[j] = 36
      · have HM : Hid (res = true) := by
          have h := HAT.out
          rw [hb] at h
          show _ = _
          rw [← HR.out]
          exact List.any_eq_true.2 ⟨36, List.mem_of_getElem? h, by decide⟩
        have hb2 : (nm[j].toNat : Int) = 36 := by rw [hb]; rfl
        clear hb
        go_wp2
        go_ret
        obtain rfl := HM.out
        exact ⟨rfl, rfl⟩
      · have hb2 : ¬ (nm[j].toNat : Int) = 36 := fun h => hb (UInt8.toNat_inj.1 (by have : (36 : UInt8).toNat = 36 := rfl; omega))
        have HJ2 : Hid (∀ q, q < j + 1 → nm.data.toList[q]? ≠ some 36) := fun q hq => by
          by_cases e : q = j
          · subst e; rw [HAT.out]; exact fun h => hb (Option.some.inj h)
          · exact HJ.out q (by omega)
        clear hb
        go_wp2
        exact ⟨⟨j + 1, by simp, by omega, by first | rfl | trivial, HJ2⟩, by simp [intOf]; omega⟩
    · have HF : Hid (res = false) := by
        show _ = _
        rw [← HR.out]
        refine List.any_eq_false.2 fun b hb h => ?_
        obtain rfl : b = 36 := eq_of_beq h
        obtain ⟨q, hq⟩ := List.getElem?_of_mem hb
        have hlt := (List.getElem?_eq_some_iff.1 hq).1
        have hsz : nm.data.toList.length = nm.size := (Lib.size_eq nm).symm
        exact HJ.out q (by omega) hq
      have hd : ¬ (j : Int) < (nm.size : Int) := by omega
      go_wp2
      go_ret
      obtain rfl := HF.out
      exact ⟨rfl, rfl⟩
set_option maxRecDepth 100000 in
set_option maxHeartbeats 8000000 in
theorem names_walk (m : Int) (s : ByteArray) (w : World) (h0 : -9223372036854775808 ≤ m) (h1 : m ≤ 9223372036854775807) (hs : s.size ≤ 1048576) (he : EvR w) :
    Calls Tryz.prog 3 #[.int .i64 m, .string s] w fun e w' => e = .returned (.bool true) ∧ Below w.heap.size w w' := by
  have HE : Hid (∀ X, Below w.heap.size w X → EvR X) := fun X b => he.bel b
  have CB := backP_any s w (by omega) he.e he.s
  have CD := fun X => backD_any s X (by omega)
  have CN := fun X => nameP_any m s X h0 h1 (by omega)
  have CM := fun X => nameD_any m s X h0 h1 (by omega)
  have CS := fun X => spaceP_any m X h0 h1
  have CT := fun X => spaceD_any m X h0 h1
  generalize (⟨(nmL m s.data.toList).toArray⟩ : ByteArray) = x at *
  generalize (⟨(nmL m []).toArray⟩ : ByteArray) = y at *
  clear he hs
  go_enter Tryz.func3, Tryz.ntmps3
  go_wp2_with fail
  go_at_call 5
  refine CB.mono ?_
  rintro e W1 ⟨k1, b1⟩
  have K1 : Hid (AnsB s.data.toList e) := k1
  have B1 : Hid (Below w.heap.size w W1) := b1
  clear b1 CB
  rcases k1 with ⟨k, n, _, rfl⟩ | ⟨_, rfl⟩
  all_goals
    go_wp2_with fail
    go_at_call 6
    refine (CD _).mono ?_
    rintro e W2 ⟨k2, b2⟩
    obtain rfl := K1.out.same k2
    have B2 : Hid (Below w.heap.size w W2) := B1.out.trans (b2.mono B1.out.size)
    clear k2 b2
    go_wp2_with fail
    go_at_call 7
    refine (CN _).mono ?_
    rintro e W3 ⟨rfl, b3⟩
    have B3 : Hid (Below w.heap.size w W3) := B2.out.trans (b3.mono B2.out.size)
    clear b3
    go_wp2_with fail
    go_at_call 8
    refine (CM _).mono ?_
    rintro e W4 ⟨rfl, rfl⟩
    go_wp2_with fail
    go_at_call 9
    refine (CS _).mono ?_
    rintro e W5 ⟨rfl, b5⟩
    have B5 : Hid (Below w.heap.size w W5) := B3.out.trans (b5.mono B3.out.size)
    clear b5
    go_wp2_with fail
    go_at_call 10
    refine (CT _).mono ?_
    rintro e W6 ⟨rfl, rfl⟩
    go_wp2_with fail
    go_at_call 11
    refine (awake_any _ (HE.out _ B5.out)).mono ?_
    rintro e W7 ⟨rfl, b7⟩
    go_wp2
    go_ret
    exact ⟨rfl, B5.out.trans (b7.mono B5.out.size)⟩
theorem nm_bk {l : List UInt8} {k : Nat} (hk : k < 64) (hl : okN l = true) : Bk okN (nmL (k : Int) l) k l := ⟨nmL_nat k l, hk, hl⟩
theorem ans_nm {l : List UInt8} {k : Nat} (hk : k < 64) (hl : okN l = true) {e : Ending} (h : AnsB (nmL (k : Int) l) e) : e = .returned (.tuple #[.int .i64 (k : Nat), .string ⟨l.toArray⟩, .bool true]) :=
  h.same (.inl ⟨k, l, nm_bk hk hl, rfl⟩)
theorem ba_eq (a b : List UInt8) : ((⟨a.toArray⟩ : ByteArray).toList == (⟨b.toArray⟩ : ByteArray).toList) = (a == b) := by
  simp
theorem mod_nat (m : Int) : ∃ k : Nat, k < 64 ∧ (wrap64 (m.tmod 64 + 64)).tmod 64 = (k : Int) := by
  have a1 : m.tmod 64 < 64 := Int.tmod_lt_of_pos m (by omega)
  have a2 : -64 < m.tmod 64 := Int.lt_tmod_of_pos m (by omega)
  have hw : wrap64 (m.tmod 64 + 64) = m.tmod 64 + 64 := by unfold wrap64; omega
  rw [hw]
  have h2 := Int.tmod_nonneg 64 (show 0 ≤ m.tmod 64 + 64 by omega)
  have h3 := Int.tmod_lt_of_pos (m.tmod 64 + 64) (show (0 : Int) < 64 by omega)
  exact ⟨((m.tmod 64 + 64).tmod 64).toNat, by omega, by omega⟩
theorem nm_size (k : Nat) (hk : k < 64) (l : List UInt8) (hl : l.length ≤ 1048576) : (⟨(nmL (k : Int) l).toArray⟩ : ByteArray).size ≤ 4194304 := by
  have := nmL_len (k : Int) l (by omega)
  simp [ByteArray.size]
  omega
set_option maxRecDepth 100000 in
set_option maxHeartbeats 8000000 in
theorem back_walk (m : Int) (s : ByteArray) (j : Int) (w : World) (h0 : -9223372036854775808 ≤ m) (h1 : m ≤ 9223372036854775807) (hs : s.size ≤ 1048576) (g0 : -9223372036854775808 ≤ j) (g1 : j ≤ 9223372036854775807) (he : EvR w) :
    Calls Tryz.prog 4 #[.int .i64 m, .string s, .int .i64 j] w fun e w' => e = .returned (.bool true) ∧ Below w.heap.size w w' := by
  have HE : Hid (∀ X, Below w.heap.size w X → EvR X) := fun X b => he.bel b
  have CP := fun X => rprop_any s X (by omega)
  have CH := fun X => has_any36 s X (by omega)
  obtain ⟨p, hp⟩ : ∃ p, propT false s.data.toList = p := ⟨_, rfl⟩
  obtain ⟨q, hq⟩ : ∃ q, s.data.toList.any (· == 36) = q := ⟨_, rfl⟩
  rw [hp] at CP
  rw [hq] at CH
  have HP : Hid (propT false s.data.toList = p) := hp
  have HQ : Hid (s.data.toList.any (· == 36) = q) := hq
  have HS : Hid (s.size ≤ 1048576) := hs
  obtain ⟨k, hk, hM⟩ := mod_nat m
  obtain ⟨i, hi, hJ⟩ := mod_nat j
  clear hp hq he hs
  go_enter Tryz.func4, Tryz.ntmps4
  cases p with
  | false =>
    go_wp2_with fail
    go_at_call 12
    refine (CP _).mono ?_
    rintro e W1 ⟨rfl, b1⟩
    have B1 : Hid (Below w.heap.size w W1) := b1
    clear b1
    go_wp2_with fail
    go_at_call 11
    refine (awake_any _ (HE.out _ B1.out)).mono ?_
    rintro e W2 ⟨rfl, b2⟩
    go_wp2
    go_ret
    exact ⟨rfl, B1.out.trans (b2.mono B1.out.size)⟩
  | true =>
    cases q with
    | true =>
      go_wp2_with fail
      go_at_call 12
      refine (CP _).mono ?_
      rintro e W1 ⟨rfl, b1⟩
      have B1 : Hid (Below w.heap.size w W1) := b1
      clear b1
      go_wp2_with fail
      go_at_call 13
      refine (CH _).mono ?_
      rintro e W2 ⟨rfl, rfl⟩
      go_wp2_with fail
      go_at_call 11
      refine (awake_any _ (HE.out _ B1.out)).mono ?_
      rintro e W2 ⟨rfl, b2⟩
      go_wp2
      go_ret
      exact ⟨rfl, B1.out.trans (b2.mono B1.out.size)⟩
    | false =>
      have hok : okN s.data.toList = true := by rw [okN_doc, HP.out, HQ.out]; simp
      have hne : s.data.toList ≠ [] := fun h => by
        have := HP.out
        rw [h] at this
        exact absurd this (by decide +kernel)
      have hl : s.data.toList.length ≤ 1048576 := by rw [← Lib.size_eq]; exact HS.out
      have es : (⟨s.data.toList.toArray⟩ : ByteArray) = s := ba_of s
      have N1 := fun X => nameP_any (k : Int) s X (by omega) (by omega) (by have := HS.out; omega)
      have N2 := fun X => nameP_any (i : Int) s X (by omega) (by omega) (by have := HS.out; omega)
      have S1 := fun X => spaceP_any (k : Int) X (by omega) (by omega)
      have BX : Hid (∀ X, Below w.heap.size w X → Calls Tryz.prog 5 #[.string ⟨(nmL (k : Int) s.data.toList).toArray⟩] X fun e w' => e = .returned (.tuple #[.int .i64 (k : Nat), .string s, .bool true]) ∧ Below X.heap.size X w') := fun X b =>
        (backP_any _ X (nm_size k hk _ hl) (HE.out X b).e (HE.out X b).s).mono fun e w' h => ⟨by have := ans_nm hk hok h.1; rw [this, es], h.2⟩
      have BZ : Hid (∀ X, Below w.heap.size w X → Calls Tryz.prog 5 #[.string ⟨(nmL (k : Int) []).toArray⟩] X fun e w' => e = .returned (.tuple #[.int .i64 (k : Nat), .string ⟨#[]⟩, .bool true]) ∧ Below X.heap.size X w') := fun X b =>
        (backP_any _ X (nm_size k hk [] (by simp)) (HE.out X b).e (HE.out X b).s).mono fun e w' h => ⟨ans_nm hk rfl h.1, h.2⟩
      have hxy : ((⟨(nmL (k : Int) s.data.toList).toArray⟩ : ByteArray).toList == (⟨(nmL (i : Int) s.data.toList).toArray⟩ : ByteArray).toList) = ((k : Int) == (i : Int)) := by
        rw [ba_eq, Bool.eq_iff_iff, beq_iff_eq, beq_iff_eq]
        constructor
        · intro h
          have := ((nm_bk hk hok).one (m' := i) (n' := s.data.toList) (by rw [h]; exact nm_bk hi hok)).1
          omega
        · intro h
          rw [h]
      have hzy : ((⟨(nmL (k : Int) []).toArray⟩ : ByteArray).toList != (⟨(nmL (i : Int) s.data.toList).toArray⟩ : ByteArray).toList) = true := by
        rw [bne_iff_ne]
        intro h
        have h2 := eq_of_beq ((ba_eq _ _).symm.trans (beq_iff_eq.2 h))
        exact hne (((nm_bk hk (l := []) rfl).one (m' := i) (n' := s.data.toList) (by rw [h2]; exact nm_bk hi hok)).2).symm
      have hzy2 : ((⟨(nmL (k : Int) []).toArray⟩ : ByteArray).toList == (⟨(nmL (i : Int) s.data.toList).toArray⟩ : ByteArray).toList) = false := by simpa [bne] using hzy
      clear hok hne hl es HP HQ HS
      generalize (⟨(nmL (k : Int) s.data.toList).toArray⟩ : ByteArray) = x at *
      generalize (⟨(nmL (i : Int) s.data.toList).toArray⟩ : ByteArray) = y at *
      generalize (⟨(nmL (k : Int) []).toArray⟩ : ByteArray) = z at *
      go_wp2_with fail
      go_at_call 12
      refine (CP _).mono ?_
      rintro e W1 ⟨rfl, b1⟩
      have B1 : Hid (Below w.heap.size w W1) := b1
      clear b1
      go_wp2_with fail
      go_at_call 13
      refine (CH _).mono ?_
      rintro e W2 ⟨rfl, rfl⟩
      go_wp2_with fail
      go_at_call 7
      refine (N1 _).mono ?_
      rintro e W3 ⟨rfl, b3⟩
      have B3 : Hid (Below w.heap.size w W3) := B1.out.trans (b3.mono B1.out.size)
      clear b3
      go_wp2_with fail
      go_at_call 5
      refine (BX.out _ B3.out).mono ?_
      rintro e W4 ⟨rfl, b4⟩
      have B4 : Hid (Below w.heap.size w W4) := B3.out.trans (b4.mono B3.out.size)
      clear b4
      go_wp2_with fail
      go_at_call 9
      refine (S1 _).mono ?_
      rintro e W5 ⟨rfl, b5⟩
      have B5 : Hid (Below w.heap.size w W5) := B4.out.trans (b5.mono B4.out.size)
      clear b5
      go_wp2_with fail
      go_at_call 5
      refine (BZ.out _ B5.out).mono ?_
      rintro e W6 ⟨rfl, b6⟩
      have B6 : Hid (Below w.heap.size w W6) := B5.out.trans (b6.mono B5.out.size)
      clear b6
      obtain ⟨bq, hb⟩ : ∃ bq, ((k : Int) == (i : Int)) = bq := ⟨_, rfl⟩
      rw [hb] at hxy
      go_wp2_with fail
      go_at_call 7
      refine (N1 _).mono ?_
      rintro e W7 ⟨rfl, b7⟩
      have B7 : Hid (Below w.heap.size w W7) := B6.out.trans (b7.mono B6.out.size)
      clear b7
      go_wp2_with fail
      go_at_call 7
      refine (N2 _).mono ?_
      rintro e W8 ⟨rfl, b8⟩
      have B8 : Hid (Below w.heap.size w W8) := B7.out.trans (b8.mono B7.out.size)
      clear b8
      cases bq
      all_goals
        go_wp2_with fail
        go_at_call 9
        refine (S1 _).mono ?_
        rintro e W9 ⟨rfl, b9⟩
        have B9 : Hid (Below w.heap.size w W9) := B8.out.trans (b9.mono B8.out.size)
        clear b9
        go_wp2_with fail
        go_at_call 7
        refine (N2 _).mono ?_
        rintro e Wa ⟨rfl, ba⟩
        have Ba : Hid (Below w.heap.size w Wa) := B9.out.trans (ba.mono B9.out.size)
        clear ba
        go_wp2_with fail
        trace_state
        go_at_call 11
        refine (awake_any _ (HE.out _ Ba.out)).mono ?_
        rintro e Wb ⟨rfl, bb⟩
        go_wp2
        go_ret
        exact ⟨rfl, Ba.out.trans (bb.mono Ba.out.size)⟩
end Go.Proofs.YtpnljjcdlkjfhaaGreatDoor
set_option linter.unusedVariables false
namespace Go.Proofs.YtpnljjcdlkjfhaaGreatDoor
open Go.ChangeShapes Go.WideShapes Go.ChangeAt Go.RowKit
theorem own : ownKnob Tryz.prog.godebug = none := by kernel_rfl
theorem laidOut : laidOutB Tryz.prog = true := by kernel_rfl
theorem below_trodAll {H : Type} {enc : TypeId × Value → H} {P : Program} (hl : laidOutB P = true) {W W' : World} (hb : Below W.heap.size W W') : ∀ (ts : List TypeId) {vs : List Value} {ds : List (DataW H)} {ps : List MemPlace},
    ts.all (fun t => P.readableRec t && decide (t < P.types.size)) = true → DataW.TrodAll enc P W 0 (fun _ => true) true ts vs ds ps → (∀ x ∈ ps, x.block < W.heap.size) →
    DataW.TrodAll enc P W' 0 (fun b => decide (b < W.heap.size)) true ts vs ds ps := by
  intro ts
  induction ts with
  | nil =>
    intro vs ds ps _ h _
    cases vs <;> cases ds <;> first | exact h | exact h.elim
  | cons t ts ih =>
    intro vs ds ps hr h hlt
    obtain ⟨v, vs', d, ds', p, q, rfl, rfl, rfl, h1, h2⟩ := trodAll_cons h
    simp only [List.all_cons, Bool.and_eq_true, decide_eq_true_eq] at hr
    exact ⟨p, q, Below.trod hl hr.1.1 hr.1.2 h1 hb (fun x hx => hlt x (by simp [hx])), ih (by simpa using hr.2) h2 (fun x hx => hlt x (by simp [hx])), rfl⟩

/-- The tables that the rows list, in their order. -/
abbrev laidTabs : List (String × DataW Unit) := [("math/bits.deBruijn32tab", Rows.laid_math_bits_deBruijn32tab), ("math/bits.deBruijn64tab", Rows.laid_math_bits_deBruijn64tab), ("internal/strconv.uint64pow10", Rows.laid_internal_strconv_uint64pow10), ("strconv.ErrRange", Rows.laid_strconv_ErrRange), ("strconv.ErrSyntax", Rows.laid_strconv_ErrSyntax), ("gusset/lex.words", Rows.laid_gusset_lex_words)]

theorem cells_of_texts {W : World} {fuel : Nat} {t e : TypeId} {n : Nat} {cs : List Value} {l : List (List UInt8)} {p : List MemPlace} (ht : Tryz.prog.underlying t = some (.array n e)) (he : Tryz.prog.underlying e = some .string) (hce : Tryz.prog.cellsOf e = 1) (hct : Tryz.prog.cellsOf t = n) (hn : l.length = n)
    (h : DataW.trod (fun _ => ()) Tryz.prog W 0 (fun _ => true) false fuel t cs = some (.agg (l.map fun b => .lit (.string b)), p)) (hcl : cs.length = n) : cs = textC l := by
  apply List.ext_getElem?
  intro i
  by_cases hi : i < n
  · obtain ⟨fuel', d, q, hd, hf⟩ := Lib.array_elem ht h i hi
    rw [hce, Nat.mul_one] at hf
    obtain ⟨s, hc, hx, _⟩ := DataW.trod_string he hf
    have h1 : cs[i]? = some (.string s) := by
      have := congrArg (·[0]?) hc
      simpa [List.getElem?_take, List.getElem?_drop] using this
    simp only [Prod.mk.injEq] at hx
    rw [List.getElem?_map, hx.1] at hd
    obtain ⟨b, hb, e⟩ := Option.map_eq_some_iff.1 hd
    simp only [DataW.lit.injEq, Lit.string.injEq] at e
    rw [h1]
    simp only [textC, List.getElem?_map, hb, Option.map_some, e]
  · rw [List.getElem?_eq_none (by omega), List.getElem?_eq_none (by simp [textC]; omega)]
theorem trod_array_len {W : World} {fuel : Nat} {t e : TypeId} {n : Nat} {cs : List Value} {x : DataW Unit × List MemPlace} (ht : Tryz.prog.underlying t = some (.array n e)) (hct : Tryz.prog.cellsOf t = n)
    (h : DataW.trod (fun _ => ()) Tryz.prog W 0 (fun _ => true) false fuel t cs = some x) : cs.length = n := by
  cases fuel with
  | zero => simp [DataW.trod] at h
  | succ fuel =>
    simp only [DataW.trod, ht, hct] at h
    split at h
    · rename_i hl; simpa using hl
    · cases h
theorem texts_laid {W : World} {name : String} {g : Nat} {t e : TypeId} {n : Nat} (l : List (List UInt8)) (hg : Tryz.prog.globalNamed name = some g) (hty : (Tryz.prog.globals[g]?).map (·.type) = some t) (ht : Tryz.prog.underlying t = some (.array n e)) (he : Tryz.prog.underlying e = some .string) (hce : Tryz.prog.cellsOf e = 1) (hct : Tryz.prog.cellsOf t = n) (hn : l.length = n)
    (h : Lib.VarReads Tryz.prog W name (.agg (l.map fun b => .lit (.string b)))) : ∃ t fr, W.heap[g]? = some (.cells (textC l).toArray t fr) := by
  obtain ⟨g', t', cs, fuel, p, hg', ht', hvar, hd⟩ := h
  obtain rfl := Option.some.inj (hg.symm.trans hg')
  obtain rfl := Option.some.inj (hty.symm.trans ht')
  have hc := cells_of_texts ht he hce hct hn hd (trod_array_len ht hct hd)
  unfold World.var? at hvar
  rw [hg] at hvar
  simp only [Option.bind_some] at hvar
  cases hb : W.heap[g]? with
  | none => rw [hb] at hvar; cases hvar
  | some o =>
    rw [hb] at hvar
    cases o with
    | cells cs' t2 fr =>
      cases hvar
      exact ⟨t2, fr, by rw [← hc]⟩
    | _ => cases hvar
theorem words_is : (Rows.laid_gusset_lex_words : DataW Unit) = .agg (wordsF.map fun b => .lit (.string b)) := by kernel_rfl
theorem star_err : "*" ++ "errors.errorString" = "*errors.errorString" := by decide
theorem row_err {u : TypeId} (h : Tryz.prog.typeName? 3 u = some "*errors.errorString") : u = 178 :=
  typeName_ptr_named (nm := "errors.errorString") (by rw [star_err]; kernel_rfl) (by kernel_rfl) (by decide) u (by rw [star_err]; exact h)
theorem cell_of_var {W : World} {n : String} {g : Nat} {v : Value} (hg : Tryz.prog.globalNamed n = some g) (h : W.var? Tryz.prog n = some #[v]) : W.cell? ⟨g, 0, none⟩ = some v := by
  have := World.var?_cell hg h 0
  simpa using this
theorem env_of {W : World} (h : laidMetH Tryz.prog laidTabs W) (hsh : W.ShapedOpen Tryz.prog) : EvR W := by
  have hl : laidMet Tryz.prog laidTabs W := h
  have r4 : Lib.VarReads Tryz.prog W "gusset/lex.words" Rows.laid_gusset_lex_words := Lib.laidMet.reads hl (by simp)
  rw [words_is] at r4
  have h3 := laidMet.tail (laidMet.tail (laidMet.tail hl))
  have h4 := laidMet.tail h3
  obtain ⟨a0, s0, hv0, hc0, hs0, hz0⟩ := laid_sentinel h3 (g := 2) (by kernel_rfl) (by kernel_rfl) Tryz.underlying32 (fun u hu => row_err hu) Tryz.underlying178 Tryz.underlying180 rfl rfl Tryz.underlying9 (by kernel_rfl) (by kernel_rfl)
  obtain ⟨a1, s1, hv1, hc1, hs1, hz1⟩ := laid_sentinel h4 (g := 1) (by kernel_rfl) (by kernel_rfl) Tryz.underlying32 (fun u hu => row_err hu) Tryz.underlying178 Tryz.underlying180 rfl rfl Tryz.underlying9 (by kernel_rfl) (by kernel_rfl)
  exact ⟨⟨⟨_, _, cell_of_var (by kernel_rfl) hv1⟩, ⟨_, _, cell_of_var (by kernel_rfl) hv0⟩⟩, texts_laid (g := 3) wordsF (by kernel_rfl) (by kernel_rfl) Tryz.underlying130 Tryz.underlying9 (by kernel_rfl) (by kernel_rfl) rfl r4⟩
theorem ReN.walk (m : Int) (s : ByteArray) (w : World) (h0 : -9223372036854775808 ≤ m) (h1 : m ≤ 9223372036854775807) (hs : s.size ≤ 1048576) (he : EvR w) :
    Calls Tryz.prog 3 #[.int .i64 m, .string s] w fun e w' => e = .returned (.bool true) ∧ Below w.heap.size w w' := names_walk m s w h0 h1 hs he
theorem ReB.walk (m : Int) (s : ByteArray) (j : Int) (w : World) (h0 : -9223372036854775808 ≤ m) (h1 : m ≤ 9223372036854775807) (hs : s.size ≤ 1048576) (g0 : -9223372036854775808 ≤ j) (g1 : j ≤ 9223372036854775807) (he : EvR w) :
    Calls Tryz.prog 4 #[.int .i64 m, .string s, .int .i64 j] w fun e w' => e = .returned (.bool true) ∧ Below w.heap.size w w' := back_walk m s j w h0 h1 hs g0 g1 he
end Go.Proofs.YtpnljjcdlkjfhaaGreatDoor
