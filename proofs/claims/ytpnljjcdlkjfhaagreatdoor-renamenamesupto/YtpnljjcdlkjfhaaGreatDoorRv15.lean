/- Own text. A $ in a property name. Is a text a name of a module's tree: the program's way of asking. Which module and name a text tells: the document's answer. Operations of a region that draws, taken first: shorter words; the frame stays written out. -/
import Derived.Test.YtpnljjcdlkjfhaaGreatDoorRv14
import Derived.Test.YtpnljjcdlkjfhaaGreatDoorRv10
import Derived.Test.YtpnljjcdlkjfhaaGreatDoorRv03
import Derived.Lib.LastIndexByte
import Derived.Test.YtpnljjcdlkjfhaaGreatDoorProg
import Derived.WalkKit
import Derived.Deep.RegionHeld3
set_option linter.unusedVariables false
set_option linter.unusedSimpArgs false
namespace Go.Proofs.YtpnljjcdlkjfhaaGreatDoor
open Go.RowKit
theorem dec_high (l : List UInt8) (h : ¬ atL l 0 < 128) : ∀ k, k < (decL l).2 → 128 ≤ atL l k := by
  intro k hk
  by_cases k0 : k = 0
  · subst k0; omega
  have cont : ∀ j, contL l j = true → 128 ≤ atL l j := fun j hj => by
    unfold contL at hj
    simp at hj
    omega
  unfold decL at hk
  rw [if_neg h] at hk
  split at hk
  · rename_i h2
    simp only [Bool.and_eq_true] at h2
    split at hk
    · have : k < 2 := hk
      obtain rfl : k = 1 := by omega
      exact cont 1 h2.2
    · have : k < 1 := hk
      omega
  · split at hk
    · rename_i h2
      simp only [Bool.and_eq_true] at h2
      split at hk
      · have : k < 3 := hk
        rcases (by omega : k = 1 ∨ k = 2) with rfl | rfl
        · exact cont 1 h2.1.2
        · exact cont 2 h2.2
      · have : k < 1 := hk
        omega
    · split at hk
      · rename_i h2
        simp only [Bool.and_eq_true] at h2
        split at hk
        · have : k < 4 := hk
          rcases (by omega : k = 1 ∨ k = 2 ∨ k = 3) with rfl | rfl | rfl
          · exact cont 1 h2.1.1.2
          · exact cont 2 h2.1.2
          · exact cont 3 h2.2
        · have : k < 1 := hk
          omega
      · have : k < 1 := hk
        omega
theorem dec_first (l : List UInt8) (hl : l ≠ []) : ((decL l).1 == 36) = (l.take (decL l).2).any (· == 36) := by
  by_cases h : atL l 0 < 128
  · have e : decL l = (atL l 0, 1) := by unfold decL; rw [if_pos h]
    rw [e]
    cases l with
    | nil => exact absurd rfl hl
    | cons b l =>
      show (b.toNat == 36) = ((b == 36) || false)
      rw [Bool.or_false, Bool.eq_iff_iff, beq_iff_eq, beq_iff_eq, ← UInt8.toNat_inj]
      rfl
  · have h1 := decL_highG l h
    rw [show ((decL l).1 == 36) = false by simp; omega]
    symm
    refine List.any_eq_false.2 fun b hb hh => ?_
    obtain rfl : b = 36 := eq_of_beq hh
    obtain ⟨k, hk⟩ := List.getElem?_of_mem hb
    have hk2 : k < (decL l).2 := by
      have := (List.getElem?_eq_some_iff.1 hk).1
      rw [List.length_take] at this
      omega
    have := dec_high l h k hk2
    rw [List.getElem?_take, if_pos hk2] at hk
    unfold atL at this
    rw [List.getD_eq_getElem?_getD, hk] at this
    exact absurd this (by decide)
theorem scan_36 : ∀ l : List UInt8, (scan l).any (fun x => x.1 == 36) = l.any (· == 36) := by
  refine scan_induct _ rfl fun l hl ih => ?_
  rw [scan_cons l hl, List.any_cons, ih, dec_first l hl, ← List.any_append, List.take_append_drop]
theorem ok_mod (f : Bool) (r : Nat) : okR true f (r : Int) = (okR false f (r : Int) && !(r == 36)) := by
  unfold okR
  by_cases h : r = 36
  · subst h
    cases f <;> rfl
  · rw [show ((r : Int) == 36) = false by simp; omega, show (r == 36) = false by simpa using h]
    simp
theorem all_and {α : Type} (a b : α → Bool) (l : List α) : (l.all fun x => a x && !b x) = (l.all a && !l.any b) := by
  induction l with
  | nil => rfl
  | cons x l ih =>
    rw [List.all_cons, List.all_cons, List.any_cons, ih]
    generalize a x = p
    generalize b x = q
    generalize l.all a = r
    generalize l.any b = s
    cases p <;> cases q <;> cases r <;> cases s <;> rfl
theorem prop_mod (l : List UInt8) : propT true l = (propT false l && !l.any (· == 36)) := by
  rw [← scan_36]
  unfold propT
  cases scan l with
  | nil => rfl
  | cons h t =>
    show (okR true true h.1 && t.all fun x => okR true false x.1) = ((okR false true h.1 && t.all fun x => okR false false x.1) && !((h.1 == 36) || t.any fun x => x.1 == 36))
    rw [ok_mod, show (t.all fun x => okR true false x.1) = (t.all fun x => okR false false x.1 && !(x.1 == 36)) by congr 1; funext x; exact ok_mod false x.1, all_and]
    generalize okR false true h.1 = p
    generalize (h.1 == 36) = q
    generalize (t.all fun x => okR false false x.1) = r
    generalize (t.any fun x => x.1 == 36) = s
    cases p <;> cases q <;> cases r <;> cases s <;> rfl
/-- a name that may stand in a module's tree, or none. -/
def okN (l : List UInt8) : Bool := l.isEmpty || propT true l
theorem okN_doc (l : List UInt8) : okN l = (l.isEmpty || (propT false l && !l.any (· == 36))) := by unfold okN; rw [prop_mod]
/-- a tree in a list of its own. -/
theorem lat_one1 {X : World} {S : Nat → Prop} {k cap : Nat} {x : Nd} {kv : Value} {t : TypeId} (h : X.heap[k]? = some (.cells #[.int .i64 x.k, .string x.t, .int .i64 x.n, kv] t (0, 0))) (hS : S k) (hk : LAt X S kv x.ks) : LAt X S (.slice (some ⟨k, 0, none⟩) 1 cap) [x] := by
  obtain ⟨c, _⟩ := box4 h
  refine LAt.row k 0 cap [x] (fun _ => kv) hS (Array.getElem?_eq_some_iff.1 h).1 (fun i hi => ?_) (fun i hi => ?_)
  · obtain rfl : i = 0 := by simp at hi; exact hi
    simpa [Four] using c
  · obtain rfl : i = 0 := by simp at hi; exact hi
    simpa using hk
def memN (s : ByteArray) : Nd := .mk 21 s 0 [.mk 4 ⟨#[]⟩ 0 []]
def ofmN (s : ByteArray) : Nd := .mk 68 ⟨#[]⟩ 0 [.mk 47 ⟨#[]⟩ 0 [memN s]]
set_option maxRecDepth 100000 in
theorem ofm_form (s : ByteArray) : (formP (ofmN s) == 5) = propT true s.data.toList := by
  unfold formP
  have : wholeP ((ofmN s).k == 68) (ofmN s) = propT true s.data.toList := by
    show wholeP true (ofmN s) = _
    have w4 : wholeP true (.mk 4 ⟨#[]⟩ 0 []) = true := by
      unfold wholeP
      rw [show ruleK (Nd.mk 4 ⟨#[]⟩ 0 []).k = some ⟨0, 0, [], 0⟩ by rfl]
      simp [folP, hdB, saysT, fitsL_nil, agreesP, Nd.k, Nd.t, Nd.n, Nd.ks]
    have w21 : wholeP true (memN s) = propT true s.data.toList := by
      unfold wholeP
      rw [show ruleK (memN s).k = some ⟨2, 0, [101], 0⟩ by rfl]
      simp [memN, folP, hdB, saysT, fitsL_nil, fitsL_cons, fitsP_eq, w4, agreesP, Nd.k, Nd.t, Nd.n, Nd.ks, show standsK 101 4 = true by rfl]
    have w47 : wholeP true (.mk 47 ⟨#[]⟩ 0 [memN s]) = propT true s.data.toList := by
      unfold wholeP
      rw [show ruleK (Nd.mk 47 ⟨#[]⟩ 0 [memN s]).k = some ⟨0, 0, [101], 0⟩ by rfl]
      simp [folP, hdB, saysT, fitsL_nil, fitsL_cons, fitsP_eq, w21, agreesP, Nd.k, Nd.t, Nd.n, Nd.ks]
      exact fun _ => rfl
    unfold wholeP
    rw [show ruleK (ofmN s).k = some ⟨0, 0, [], 109⟩ by rfl]
    simp [ofmN, folP, hdB, saysT, fitsL_nil, fitsL_cons, fitsP_eq, w47, agreesP, Nd.k, Nd.t, Nd.n, Nd.ks, show standsK 109 47 = true by rfl]
  rw [this]
  cases propT true s.data.toList <;> rfl
theorem ofm_size (s : ByteArray) : (ofmN s).size ≤ 4194304 := by simp [ofmN, memN, Nd.size_eq, sizes_cons, sizes_nil, Nd.ks]
theorem ofm_tx (s : ByteArray) (hs : s.size ≤ 4194304) : (ofmN s).tx := by
  intro y hy
  simp [ofmN, memN, Nd.flat_eq, flats_cons, flats_nil, Nd.ks] at hy
  rcases hy with rfl | rfl | rfl | rfl
  · exact Nat.zero_le _
  · exact Nat.zero_le _
  · exact hs
  · exact Nat.zero_le _
abbrev nd4 (k : Int) (s : ByteArray) (v : Value) : Obj := .cells #[.int .i64 k, .string s, .int .i64 0, v] 51
abbrev sl1 (n : Nat) : Value := .slice (some ⟨n, 0, none⟩) 1 1
abbrev ofmW (w : World) (s : ByteArray) : World := ((((w.alloc (nd4 4 ⟨#[]⟩ (.slice none 0 0))).alloc (nd4 21 s (sl1 w.heap.size))).alloc (nd4 21 s (sl1 w.heap.size))).alloc (nd4 47 ⟨#[]⟩ (sl1 (w.heap.size + 1 + 1)))).alloc (nd4 47 ⟨#[]⟩ (sl1 (w.heap.size + 1 + 1)))
theorem ofm_lat (w : World) (s : ByteArray) : LAt (ofmW w s) (fun _ => True) (sl1 (w.heap.size + 1 + 1 + 1 + 1)) (ofmN s).ks := by
  have m0 : (ofmW w s).heap[w.heap.size]? = some (nd4 4 ⟨#[]⟩ (.slice none 0 0)) := hold _ (by simp; omega) (hold _ (by simp; omega) (hold _ (by simp; omega) (hold _ (by simp) (hnew _ rfl))))
  have m2 : (ofmW w s).heap[w.heap.size + 1 + 1]? = some (nd4 21 s (sl1 w.heap.size)) := hold _ (by simp) (hold _ (by simp) (hnew _ (by simp)))
  have m4 : (ofmW w s).heap[w.heap.size + 1 + 1 + 1 + 1]? = some (nd4 47 ⟨#[]⟩ (sl1 (w.heap.size + 1 + 1))) := hnew _ (by simp)
  have l0 : LAt (ofmW w s) (fun _ => True) (sl1 w.heap.size) [.mk 4 ⟨#[]⟩ 0 []] := lat_one1 m0 trivial (.nil none 0)
  have l2 : LAt (ofmW w s) (fun _ => True) (sl1 (w.heap.size + 1 + 1)) [memN s] := lat_one1 m2 trivial l0
  exact lat_one1 m4 trivial l2
theorem ofm_bel (w : World) (s : ByteArray) : Below w.heap.size w (ofmW w s) := ((((bel_a _ _).alloc (by simp) _).alloc (by simp; omega) _).alloc (by simp; omega) _).alloc (by simp; omega) _
set_option maxRecDepth 100000 in
set_option maxHeartbeats 4000000 in
theorem ofm_any (s : ByteArray) (w : World) (hs : s.size ≤ 4194304) (he : WEnv w) :
    Calls Tryz.prog 16 #[.string s] w fun e w' => e = .returned (.bool (propT true s.data.toList)) ∧ Below w.heap.size w w' := by
  have C := form_any (ofmN s) (ofmW w s) (fun _ => True) _ (ofm_lat w s) (ofm_size s) (ofm_tx s hs) (he.bel (ofm_bel w s))
  have HB : Hid _ := ofm_bel w s
  have HF : Hid _ := ofm_form s
  generalize formP (ofmN s) = f at *
  go_enter Tryz.func16, Tryz.ntmps16
  go_wp2_with fail
  go_at_call 26
  refine C.mono ?_
  rintro e W1 ⟨rfl, b1⟩
  go_wp2
  go_ret
  exact ⟨ret_b HF.out, HB.out.trans (b1.mono HB.out.size)⟩
/-- what Back answers of a text. -/
def AnsB (s : List UInt8) (e : Ending) : Prop :=
  (∃ m n, Bk okN s m n ∧ e = .returned (.tuple #[.int .i64 (m : Nat), .string ⟨n.toArray⟩, .bool true])) ∨
  ((∀ m n, ¬ Bk okN s m n) ∧ e = .returned (.tuple #[.int .i64 0, .string ⟨#[]⟩, .bool false]))
theorem AnsB.same {s : List UInt8} {e e' : Ending} (h : AnsB s e) (k : AnsB s e') : e = e' := by
  rcases h with ⟨m, n, hb, rfl⟩ | ⟨hb, rfl⟩ <;> rcases k with ⟨m', n', kb, rfl⟩ | ⟨kb, rfl⟩
  · obtain ⟨rfl, rfl⟩ := hb.one kb
    rfl
  · exact absurd hb (kb _ _)
  · exact absurd kb (hb _ _)
  · rfl
theorem ext_data (s : ByteArray) (a b : Nat) : (s.extract a b).data.toList = (s.data.toList.take b).drop a := by
  simp [ByteArray.data_extract, Array.toList_extract, List.extract_eq_take_drop, List.drop_take]
theorem ba_of (s : ByteArray) : (⟨s.data.toList.toArray⟩ : ByteArray) = s := by apply ByteArray.ext; simp
/-- the tail of a module. -/
theorem nmL_nat (m : Nat) (s : List UInt8) : nmL m s = s ++ 36 :: dgL m := by unfold nmL; rw [if_neg (by omega)]; rfl
/-- a text ends in a module's tail, or tells no name of it. -/
theorem bk_cut {s : List UInt8} {m : Nat} {n : List UInt8} (h : Bk okN s m n) : (nmL m []).length ≤ s.length ∧ s.drop (s.length - (nmL m []).length) = nmL m [] ∧ n = s.take (s.length - (nmL m []).length) := by
  have e := h.e
  rw [nmL_nat]
  have hl : s.length = n.length + (36 :: dgL m).length := by rw [e, List.length_append]
  refine ⟨by simp at hl ⊢; omega, ?_, ?_⟩
  · have : s.length - ([] ++ 36 :: dgL m).length = n.length := by rw [hl]; simp
    rw [this, e]
    simp
  · have : s.length - ([] ++ 36 :: dgL m).length = n.length := by rw [hl]; simp
    rw [this, e]
    simp
theorem bk_of {s : List UInt8} {m : Nat} (hm : m < 64) (h1 : (nmL m []).length ≤ s.length) (h2 : s.drop (s.length - (nmL m []).length) = nmL m []) (h3 : okN (s.take (s.length - (nmL m []).length)) = true) : Bk okN s m (s.take (s.length - (nmL m []).length)) := by
  refine ⟨?_, hm, h3⟩
  have := List.take_append_drop (s.length - (nmL m []).length) s
  rw [h2, nmL_nat] at this
  rw [nmL_nat]
  exact this.symm
theorem suf_data (s : ByteArray) (d : Nat) : (s.extract d s.size).data.toList = s.data.toList.drop d := by
  rw [ext_data, List.take_of_length_le (by rw [← Lib.size_eq]; exact Nat.le_refl _)]
theorem pre_data (s : ByteArray) (d : Nat) : (s.extract 0 d).data.toList = s.data.toList.take d := by
  rw [ext_data, List.drop_zero]
/-- no name with a $ in it. -/
theorem no_sign {s a b : List UInt8} (h : s = a ++ 36 :: b) (hb : (36 : UInt8) ∉ b) (ha : (36 : UInt8) ∈ a) : ∀ m n, ¬ Bk okN s m n := by
  intro m n k
  obtain ⟨rfl, _⟩ := cut_sign hb (dgL_sign m) (h.symm.trans k.e)
  have := k.ok
  rw [okN_doc] at this
  cases a with
  | nil => cases ha
  | cons x r =>
    simp only [List.isEmpty_cons, Bool.false_or, Bool.and_eq_true, Bool.not_eq_true'] at this
    have := List.any_eq_false.1 this.2 36 ha
    simp at this
set_option maxRecDepth 100000 in
set_option maxHeartbeats 4000000 in
theorem backD_any (s : ByteArray) (w : World) (hs : s.size ≤ 4194304) : Calls Tryz.prog 6 #[.string s] w fun e w' => AnsB s.data.toList e ∧ Below w.heap.size w w' := by
  go_enter Tryz.func6, Tryz.ntmps6
  go_wp2_with fail
  go_loopw [5] (fun i wr => ∃ k : Nat, i = .int .i64 (k : Nat) ∧ k ≤ 64 ∧ Below w.heap.size w wr ∧ Hid (∀ m n, m < k → ¬ Bk okN s.data.toList m n)) (fun i _ => 64 - (intOf i).toNat)
  case atStart => exact ⟨0, rfl, by omega, Below.refl _ _, fun m n h => absurd h (Nat.not_lt_zero _)⟩
  case round =>
    obtain ⟨k, rfl, hk, bel, HZ⟩ := hrel
    by_cases hkl : k < 64
    · have C := spaceD_any (k : Int) wr (by omega) (by omega)
      have hzl := nmL_len (k : Int) [] (by omega)
      obtain ⟨t, ht⟩ : ∃ t : ByteArray, (⟨(nmL (k : Int) []).toArray⟩ : ByteArray) = t := ⟨_, rfl⟩
      have HT : Hid (nmL (k : Int) [] = t.data.toList) := by rw [← ht]; rfl
      have htz : t.size = (nmL (k : Int) []).length := by rw [← ht]; simp [ByteArray.size]
      have hts : t.size ≤ 20 := by rw [htz]; simpa using hzl
      rw [ht] at C
      have HTZ : Hid _ := htz
      have HSZ : Hid (s.size = s.data.toList.length) := Lib.size_eq s
      have HN : Hid ((∀ n, ¬ Bk okN s.data.toList k n) → ∀ m n, m < k + 1 → ¬ Bk okN s.data.toList m n) := fun h m n hm => by
        by_cases e : m = k
        · subst e; exact h n
        · exact HZ.out m n (by omega)
      clear ht htz hzl
      by_cases hd : s.size < t.size
      · have HQ : Hid (∀ m n, m < k + 1 → ¬ Bk okN s.data.toList m n) := HN.out fun n h => by
          have := (bk_cut h).1
          have := HTZ.out
          have := HSZ.out
          omega
        have hneg : (s.size : Int) - (t.size : Int) < 0 := by omega
        go_wp2_with fail
        go_at_call 10
        refine C.mono ?_
        rintro e W1 ⟨rfl, rfl⟩
        go_wp2
        exact ⟨⟨k + 1, by simp, by omega, bel, HQ⟩, by simp [intOf]; omega⟩
      · obtain ⟨d, hdd⟩ : ∃ d : Nat, s.size - t.size = d := ⟨_, rfl⟩
        have hde : (s.size : Int) - (t.size : Int) = (d : Nat) := by omega
        have hds : d ≤ s.size := by omega
        have HD : Hid (s.data.toList.length - (nmL (k : Int) []).length = d) := by show _ = _; rw [← HTZ.out, ← HSZ.out]; exact hdd
        have HL : Hid ((nmL (k : Int) []).length ≤ s.data.toList.length) := by show _ ≤ _; rw [← HTZ.out, ← HSZ.out]; omega
        clear hd hdd
        by_cases he : s.extract d s.size = t
        · have HE : Hid (s.data.toList.drop d = nmL (k : Int) []) := by show _ = _; rw [← suf_data, he, HT.out]
          have HW : Hid (s.data.toList = (s.extract 0 d).data.toList ++ 36 :: dgL k) := by
            show _ = _
            rw [pre_data, show 36 :: dgL k = s.data.toList.drop d by rw [HE.out, nmL_nat]; rfl, List.take_append_drop]
          have HK : Hid (okN (s.extract 0 d).data.toList = true → Bk okN s.data.toList k (s.extract 0 d).data.toList) := fun h => ⟨HW.out, hkl, h⟩
          have HNN : Hid (okN (s.extract 0 d).data.toList = false → ∀ m n, m < k + 1 → ¬ Bk okN s.data.toList m n) := fun h => HN.out fun n b => by
            have e := (cut_sign (dgL_sign k) (dgL_sign k) (HW.out.symm.trans b.e)).1
            rw [e, b.ok] at h
            cases h
          have HG : Hid ((36 : UInt8) ∈ (s.extract 0 d).data.toList → ∀ m n, ¬ Bk okN s.data.toList m n) := fun h => no_sign HW.out (dgL_sign k) h
          have hnz : (s.extract 0 d).size = d := by simp; omega
          have CP := fun W => rprop_any (s.extract 0 d) W (by omega)
          have he1 : ((s.extract d s.size).toList == t.toList) = true := by rw [he]; simp
          have he2 : ((s.extract d s.size).toList != t.toList) = false := by rw [he]; simp
          clear he
          obtain ⟨nm, hnm⟩ : ∃ nm, s.extract 0 d = nm := ⟨_, rfl⟩
          rw [hnm] at HW HK HNN HG hnz CP
          go_wp2_with fail
          go_at_call 10
          refine C.mono ?_
          rintro e W1 ⟨rfl, rfl⟩
          go_wp2_with fail
          have hnz2 : nm.size ≤ 4194304 := by omega
          go_loopw [9] (fun i wq => ∃ j : Nat, i = .int .i64 (j : Nat) ∧ j ≤ nm.size ∧ wq = W1 ∧ Hid (∀ q, q < j → nm.data.toList[q]? ≠ some 36)) (fun i _ => nm.size - (intOf i).toNat)
          case atStart => exact ⟨0, rfl, Nat.zero_le _, rfl, fun q h => absurd h (Nat.not_lt_zero _)⟩
          case round =>
            obtain ⟨j, rfl, hj, rfl, HJ⟩ := hrel
            by_cases hjl : j < nm.size
            · have hat : nm.data.toList[j]? = some nm[j] := by
                rw [Array.getElem?_toList]
                exact Array.getElem?_eq_getElem hjl
              have HAT : Hid _ := hat
              clear hat
              by_cases hb : nm[j] = 36
              · have HM : Hid ((36 : UInt8) ∈ nm.data.toList) := by
                  have := HAT.out
                  rw [hb] at this
                  exact List.mem_of_getElem? this
                have hb2 : (nm[j].toNat : Int) = 36 := by rw [hb]; rfl
                clear hb
                go_wp2
                go_ret3
                exact ⟨.inr ⟨HG.out HM.out, rfl⟩, bel⟩
              · have hb2 : ¬ (nm[j].toNat : Int) = 36 := fun h => hb (UInt8.toNat_inj.1 (by have : (36 : UInt8).toNat = 36 := rfl; omega))
                have HJ2 : Hid (∀ q, q < j + 1 → nm.data.toList[q]? ≠ some 36) := fun q hq => by
                  by_cases e : q = j
                  · subst e; rw [HAT.out]; exact fun h => hb (Option.some.inj h)
                  · exact HJ.out q (by omega)
                clear hb
                go_wp2
                exact ⟨⟨j + 1, by simp, by omega, trivial, HJ2⟩, by simp [intOf]; omega⟩
            · have HNO : Hid ((36 : UInt8) ∉ nm.data.toList) := fun h => by
                obtain ⟨q, hq⟩ := List.getElem?_of_mem h
                have := (List.getElem?_eq_some_iff.1 hq).1
                exact HJ.out q (by have := Lib.size_eq nm; omega) hq
              have HOK : Hid (okN nm.data.toList = (nm.data.toList.isEmpty || propT false nm.data.toList)) := by
                show _ = _
                rw [okN_doc, show nm.data.toList.any (· == 36) = false from List.any_eq_false.2 fun x hx h => HNO.out (by rw [← eq_of_beq h]; exact hx)]
                simp
              cases h0 : nm.data.toList.isEmpty with
              | true =>
                have h1 : nm.toList.isEmpty = true := by rw [bytes_toList]; exact h0
                have HA : Hid (AnsB s.data.toList (.returned (.tuple #[.int .i64 (k : Nat), .string nm, .bool true]))) := .inl ⟨k, _, HK.out (by rw [HOK.out, h0]; rfl), by rw [ba_of]⟩
                clear h0
                go_wp2
                go_ret3
                exact ⟨HA.out, bel⟩
              | false =>
                have h1 : nm.toList.isEmpty = false := by rw [bytes_toList]; exact h0
                have CQ := CP wr
                cases hp : propT false nm.data.toList with
                | true =>
                  have HA : Hid (AnsB s.data.toList (.returned (.tuple #[.int .i64 (k : Nat), .string nm, .bool true]))) := .inl ⟨k, _, HK.out (by rw [HOK.out, hp]; simp), by rw [ba_of]⟩
                  rw [hp] at CQ
                  clear h0 hp CP
                  go_wp2_with fail
                  go_at_call 12
                  refine CQ.mono ?_
                  rintro e W2 ⟨rfl, b2⟩
                  go_wp2
                  go_ret3
                  exact ⟨HA.out, bel.trans (b2.mono bel.size)⟩
                | false =>
                  have HA : Hid _ := HNN.out (by rw [HOK.out, hp, h0]; rfl)
                  rw [hp] at CQ
                  clear h0 hp CP
                  go_wp2_with fail
                  go_at_call 12
                  refine CQ.mono ?_
                  rintro e W2 ⟨rfl, b2⟩
                  go_wp2
                  exact ⟨⟨k + 1, by simp, by omega, bel.trans (b2.mono bel.size), HA⟩, by simp [intOf]; omega⟩
        · have HQ : Hid (∀ m n, m < k + 1 → ¬ Bk okN s.data.toList m n) := HN.out fun n h => by
            have h2 := (bk_cut h).2.1
            rw [HD.out, ← suf_data] at h2
            exact he (by rw [← ba_of (s.extract d s.size), h2, HT.out, ba_of])
          have he1 : ((s.extract d s.size).toList == t.toList) = false := by
            rw [bytes_toList, bytes_toList]
            simp only [beq_eq_false_iff_ne, ne_eq]
            exact fun h => he (by rw [← ba_of (s.extract d s.size), h, ba_of])
          have he2 : ((s.extract d s.size).toList != t.toList) = true := by unfold bne; rw [he1]; rfl
          clear he
          go_wp2_with fail
          go_at_call 10
          refine C.mono ?_
          rintro e W1 ⟨rfl, rfl⟩
          go_wp2
          exact ⟨⟨k + 1, by simp, by omega, bel, HQ⟩, by simp [intOf]; omega⟩
    · have HA : Hid (∀ m n, ¬ Bk okN s.data.toList m n) := fun m n h => HZ.out m n (by have := h.lt; omega) h
      go_wp2
      go_ret3
      exact ⟨.inr ⟨HA.out, rfl⟩, bel⟩
section
variable {P : Program} {md : Region.Mode} {ops : Array Oper} {Q : Exit → Act → World → Prop} {S : World → Prop} {oi : Oper} {fuel d : Nat} {listed : Array Bool} {l : List Value} {ds : List Deferred} {w : World}
theorem tH (i : Nat) {v : Value} (h : wpAnyH P md ops Q S fuel (listed.setIfInBounds i true) ⟨(l.set d v).toArray, ds⟩ w) (hi : ops[i]? = some oi := by rfl) (hd : oi.dst = some d := by rfl)
    (hy : YieldsIf P ops S oi v ⟨l.toArray, ds⟩ := by exact Or.inl ⟨by rfl, by intro w hSw; (try dsimp only at hSw); (try simp only [List.getElem_toArray, List.getElem_cons_zero, List.getElem_cons_succ]); go_simp; first | done | with_reducible rfl⟩)
    (hs : Region.noSelect ops = true := by kernel_rfl) (hf : Region.free md ops listed i = true := by kernel_rfl) (hr : (Region.ready md ops listed).contains i = true := by kernel_rfl)
    (hQ : ∀ c a w, Q (.panic c) (a.put oi.dst v) w → Q (.panic c) a w := by exact fun _ _ _ h => h) (hS : S w := by assumption) : wpAnyH P md ops Q S (fuel + 1) listed ⟨l.toArray, ds⟩ w :=
  wpAnyH_take hi hs hf hr hQ hy hS (by rw [hd]; simpa [Act.put] using h)
theorem tS (i : Nat) (h : wpAnyH P md ops Q S fuel (listed.setIfInBounds i true) ⟨(l.set d undef).toArray, ds⟩ w) (hi : ops[i]? = some oi := by rfl) (hd : oi.dst = some d := by rfl)
    (hy : YieldsIf P ops S oi undef ⟨l.toArray, ds⟩ := by exact Or.inr ⟨by rfl, rfl⟩)
    (hs : Region.noSelect ops = true := by kernel_rfl) (hf : Region.free md ops listed i = true := by kernel_rfl) (hr : (Region.ready md ops listed).contains i = true := by kernel_rfl)
    (hQ : ∀ c a w, Q (.panic c) (a.put oi.dst undef) w → Q (.panic c) a w := by exact fun _ _ _ h => h) (hS : S w := by assumption) : wpAnyH P md ops Q S (fuel + 1) listed ⟨l.toArray, ds⟩ w :=
  wpAnyH_take hi hs hf hr hQ hy hS (by rw [hd]; simpa [Act.put] using h)
end
theorem region_held {PP : Program} {ops : Array Oper} {Q : Exit → Act → World → Prop} {id : Nat} {a : Act} {w : World} (S : World → Prop) (hm : PP.follows .mixedOrders = true) (hS : S w.drew)
    (h : S w.drew → wpAnyH PP .any ops Q S ops.size (Array.replicate ops.size false) a w.drew) : (Code.region id ops true).wp PP Q a w :=
  wp_region_any hm (wpAny_of_held _ _ _ _ (h hS))
end Go.Proofs.YtpnljjcdlkjfhaaGreatDoor
