/- Own text. GraphMany: the walk. -/
import Derived.Test.YtfehmdfamndcaaaGreatDoorGm01
import Derived.Test.YtfehmdfamndcaaaGreatDoorGm46
import Derived.Test.YtfehmdfamndcaaaGreatDoorGm47
namespace Go.Proofs.YtfehmdfamndcaaaGreatDoor
open Go.RowKit Go.MapKept
set_option linter.unusedVariables false
set_option linter.unusedSimpArgs false

/-- the files so far. -/
def chP (k : Nat) : Fls := (List.range k).map (fun i => (pM i, srcM (i + 1)))
theorem chP_succ (k : Nat) : chP (k + 1) = chP k ++ [(pM k, srcM (k + 1))] := by simp [chP, List.range_succ]
theorem chP_len (k : Nat) : (chP k).length = k := by simp [chP]
theorem pQ_pM (i : Nat) : pQ i = pM i := rfl
theorem pM_size (i : Nat) : (pM i).size = 4 := rfl
theorem src_cat (i : Nat) : (⟨#[105, 109, 112, 111, 114, 116, 32, 39, 46]⟩ : ByteArray) ++ pM i ++ ⟨#[39, 59]⟩ = srcM i := by
  apply ByteArray.ext
  simp [pM, srcM, dig]
theorem nM_cat (i : Nat) : (⟨#[46]⟩ : ByteArray) ++ pM i = nM i := by
  apply ByteArray.ext
  simp [pM, nM, dig]
theorem grow_belowM {w w' : World} {W : World} {v : Value} (hg : w.grownBy w' v.ownBlock) (hB : Below W.heap.size W w) (ho : ∀ j, v.ownBlock = some j → W.heap.size ≤ j) : Below W.heap.size W w' :=
  ⟨hg.os.trans hB.os, hg.tape.trans hB.tape, hg.output.trans hB.output, Nat.le_trans hB.size hg.size, fun k hk => (hg.block k (Nat.lt_of_lt_of_le hk hB.size) (fun e => by have := ho k e.symm; omega)).trans (hB.block k hk)⟩
/-- what Load answers of the chain. -/
theorem load_ch (n : Nat) (hn : n < 71) (W : World) (tb mb : Nat) (ht : Vf.Tab W tb mb (chF n)) (he : Env W) (ho : Over W.heap.size) :
    Calls Tryz.prog 6 #[.pointer (some ⟨tb, 0, none⟩), .string (pM 0)] W fun e W' => Below W.heap.size W W' ∧ ((n < 64 ∧ ∃ g cap, e = .returned (.tuple #[.agg #[.slice (some ⟨g, 0, none⟩) (n + 1) cap], .string ⟨#[]⟩, .string ⟨#[]⟩, .int .i64 0])) ∨ (64 ≤ n ∧ e = .returned (.tuple #[.agg #[.slice none 0 0], .string (pM 63), .string (nM 64), .int .i64 101]))) := by
  have hb : ∀ m S' x, Fol (chF n) MRM (⟨#[]⟩, pM 0) (Pa.nrmB (pM 0)) (Pa.nrmE (pM 0)) S0 m S' (some x) → x.1.2.size ≤ 281474976710656 := fun m S' x h => by
    rw [nrmM.1, nrmM.2] at h
    obtain ⟨h1, h2⟩ := loadM hn h
    by_cases q : n < 64
    · cases (h1 q).1
    · have := h2 (by omega)
      injection this with this
      rw [this]
      show (nM 64).size ≤ _
      simp [nM, dig, ByteArray.size]
  refine (load_any (mokM hn) W tb mb ht he ho (pM 0) (by rw [pM_size]; omega) hb).mono ?_
  rintro e W' ⟨m, S, f, c, A⟩
  have hf := A.fol
  rw [nrmM.1, nrmM.2] at hf
  obtain ⟨h1, h2⟩ := loadM hn hf
  refine ⟨A.bel, ?_⟩
  by_cases q : n < 64
  · obtain ⟨rfl, hl⟩ := h1 q
    obtain ⟨e1, hd, _⟩ := A.ok rfl
    obtain ⟨g, cap, hv, _, _⟩ := Pa.row_some hd.row (by omega)
    exact .inl ⟨q, g, cap, by rw [e1, hv, hl]⟩
  · exact .inr ⟨by omega, A.bad _ (h2 (by omega))⟩
theorem chF_sz (n : Nat) : ∀ y ∈ chF n, y.1.size ≤ 281474976710656 ∧ y.2.size ≤ 281474976710656 := fun y hy => by
  obtain ⟨i, _, rfl⟩ := chF_mem hy
  refine ⟨by simp only [pM_size]; omega, ?_⟩
  simp only
  split
  · simp [srcM, dig, ByteArray.size]
  · decide
namespace GrM
set_option maxRecDepth 100000 in
set_option maxHeartbeats 1000000 in
theorem walk (a : Int) (w : World) (ha0 : -9223372036854775808 ≤ a) (ha1 : a ≤ 9223372036854775807) (he : Env w) :
    Calls Tryz.prog 3 #[.int .i64 a] w fun e w' => e = .returned (.bool true) ∧ Below w.heap.size w w' := by
  obtain ⟨n, hn1, hn2, hna⟩ : ∃ n : Nat, 1 ≤ n ∧ n ≤ 70 ∧ max 1 (min a 70) = (n : Int) := ⟨(max 1 (min a 70)).toNat, by omega, by omega, by omega⟩
  have PA : Hid (∀ (i : Nat) (W : World), i ≤ 99 → Calls Tryz.prog 4 #[.int .i64 (i : Nat)] W fun e w' => e = .returned (.string (pM i)) ∧ Below W.heap.size W w') := fun i W hi => path_any i hi W
  have HE : Hid (∀ X, Below w.heap.size w X → Env X ∧ Over X.heap.size) := fun X b => ⟨env_below he b, he.over.mono b.size⟩
  clear he
  go_enter Tryz.func3, Tryz.ntmps3
  go_wp2_with fail
  clear hna
  go_loopw [3, 4] (fun v i wr => ∃ (k : Nat), i = .int .i64 (k : Nat) ∧ k ≤ n ∧ Hid (wr.ownsRow w.heap.size 25 2 v (chP k).length (Vf.flat (chP k))) ∧ Below w.heap.size w wr) (fun v i _ => n - (intOf i).toNat)
  case atStart => exact ⟨0, rfl, by omega, World.ownsRow_nil _ _ _ _, Below.refl _ _⟩
  case round =>
    obtain ⟨k, rfl, hk, HO, hB⟩ := hrel
    by_cases hkn : k < n
    · have hkI : ((k : Nat) : Int) < (n : Int) := by omega
      have C1 := fun W => PA.out k W (by omega)
      have C2 := fun W => PA.out (k + 1) W (by omega)
      have hz1 : (pM (k + 1)).size ≤ 100 := by rw [pM_size]; omega
      have HS : Hid ((⟨#[105, 109, 112, 111, 114, 116, 32, 39, 46]⟩ : ByteArray) ++ pM (k + 1) ++ ⟨#[39, 59]⟩ = srcM (k + 1)) := src_cat _
      have HP : Hid (chP (k + 1) = chP k ++ [(pM k, srcM (k + 1))]) := chP_succ k
      have hl := chP_len k
      rw [Int.natCast_add] at C2
      generalize pM (k + 1) = y at *
      generalize pM k = p at *
      generalize srcM (k + 1) = s at *
      go_wp2_with fail
      go_at_call 4
      refine (C1 _).mono ?_
      rintro e W1 ⟨rfl, b1⟩
      go_wp2_with fail
      go_at_call 4
      refine (C2 _).mono ?_
      rintro e W2 ⟨rfl, b2⟩
      clear C1 C2
      have b12 : Below wr.heap.size wr W2 := b1.trans (b2.mono b1.size)
      have hO2 := row_bel HO.out b12
      have ht := HS.out
      have hA : Below W2.heap.size W2 (W2.alloc (.cells #[.string p, .string s] 25)) := (Below.refl _ _).alloc (Nat.le_refl _) _
      have hO3 := row_bel hO2 hA
      have hsrc := Vf.fsrc_of_fat (Vf.fat_new W2 [(p, s)] 1 rfl #[.string p, .string s] rfl)
      have hlow : ∀ j, Value.ownBlock _ = some j → w.heap.size ≤ j := fun j hj => (World.ownsRow.lt HO.out j hj).1
      have HLO : Hid _ := hlow
      have hB3 : Below w.heap.size w (W2.alloc (.cells #[.string p, .string s] 25)) := (hB.trans (b12.mono hB.size)).trans (hA.mono (Nat.le_trans hB.size b12.size))
      have hs3 := hB3.size
      clear hlow
      go_wp2_with (at_builtin; go_loud (refine Vf.wpList_app _ (by rfl) _ _ (by rfl) w.heap.size _ (chP k) (by rfl) hO3 _ [(p, s)] (by rfl) hsrc (by simp; omega) hs3 ?_); intro v' W4 hT4 hg4 ho4)
      have hB4 := grow_belowM hg4 hB3 HLO.out
      go_roundw
      case rel => exact ⟨k + 1, by simp, by omega, by show World.ownsRow _ _ _ _ _ _ _; rw [HP.out]; exact hT4, hB4⟩
      case measure => simp [intOf]; omega
    · obtain rfl : k = n := by omega
      have hkI : ¬ ((k : Nat) : Int) < (k : Int) := by omega
      have CP := fun W => PA.out k W (by omega)
      have CT := fun W x h => table_any W x (chF k) h (by rw [chF_len]; omega) (chF_sz k)
      rw [wrsM (by omega)] at CT
      have P0 : Hid (∀ W, Calls Tryz.prog 4 #[.int .i64 0] W fun e w' => e = .returned (.string (pM 0)) ∧ Below W.heap.size W w') := fun W => PA.out 0 W (by omega)
      have P63 : Hid (∀ W, Calls Tryz.prog 4 #[.int .i64 63] W fun e w' => e = .returned (.string (pM 63)) ∧ Below W.heap.size W w') := fun W => PA.out 63 W (by omega)
      have P64 : Hid (∀ W, Calls Tryz.prog 4 #[.int .i64 64] W fun e w' => e = .returned (.string (pM 64)) ∧ Below W.heap.size W w') := fun W => PA.out 64 W (by omega)
      have HF : Hid (chP k ++ [(pM k, ⟨#[]⟩)] = chF k) := rfl
      have hl := chP_len k
      have hz64 : (pM 64).size ≤ 100 := by rw [pM_size]; omega
      have HN : Hid ((⟨#[46]⟩ : ByteArray) ++ pM 64 = nM 64) := nM_cat 64
      clear PA
      generalize pM k = p at *
      go_wp2_with fail
      go_at_call 4
      refine (CP _).mono ?_
      rintro e W1 ⟨rfl, b1⟩
      clear CP
      have hO2 := row_bel HO.out b1
      have hA : Below W1.heap.size W1 (W1.alloc (.cells #[.string p, .string ⟨#[]⟩] 25)) := (Below.refl _ _).alloc (Nat.le_refl _) _
      have hO3 := row_bel hO2 hA
      have hsrc := Vf.fsrc_of_fat (Vf.fat_new W1 [(p, ⟨#[]⟩)] 1 rfl #[.string p, .string ⟨#[]⟩] rfl)
      have hlow : ∀ j, Value.ownBlock _ = some j → w.heap.size ≤ j := fun j hj => (World.ownsRow.lt HO.out j hj).1
      have HLO : Hid _ := hlow
      have hB3 : Below w.heap.size w (W1.alloc (.cells #[.string p, .string ⟨#[]⟩] 25)) := (hB.trans (b1.mono hB.size)).trans (hA.mono (Nat.le_trans hB.size b1.size))
      have hs3 := hB3.size
      clear hlow
      go_wp2_with (at_builtin; refine Vf.wpList_app _ (by rfl) _ _ (by rfl) w.heap.size _ (chP k) (by rfl) hO3 _ [(p, ⟨#[]⟩)] (by rfl) hsrc (by simp; omega) hs3 ?_; intro v' W4 hT4 hg4 ho4)
      have hB4 := grow_belowM hg4 hB3 HLO.out
      rw [HF.out] at hT4
      have CT4 := CT W4 v' (Vf.fat_of_row hT4)
      clear CT hT4 hg4 ho4 hO2 hO3 hsrc hA hB3 hs3 HLO HO HF hB b1
      go_wp2_with fail
      go_at_call 5
      refine CT4.mono ?_
      rintro e W5 ⟨tb, mb, rb, vv, rfl, T, _⟩
      have b5 := T.bel
      have HT : Hid (∀ X, Below W5.heap.size W5 X → Vf.Tab X tb mb (chF k)) := fun X b => T.tab.below b T.tab.ltT T.tab.ltM
      have hB5 : Below w.heap.size w W5 := hB4.trans (b5.mono hB4.size)
      clear CT4 T b5 hB4
      go_wp2_with fail
      go_at_call 4
      refine (P0.out _).mono ?_
      rintro e W6 ⟨rfl, b6⟩
      have hB6 := hB5.trans (b6.mono hB5.size)
      obtain ⟨i6, o6⟩ := HE.out W6 hB6
      have C6 := load_ch k (by omega) W6 tb mb (HT.out W6 b6) i6 o6
      clear i6 o6
      go_wp2_with fail
      go_at_call 6
      refine C6.mono ?_
      rintro e W7 ⟨b7, (⟨hk64, g, cap, rfl⟩ | ⟨hk64, rfl⟩)⟩
      · have hB7 : Below w.heap.size w W7 := hB6.trans (b7.mono hB6.size)
        obtain ⟨W8, hW8⟩ : ∃ X, W7.alloc (Obj.cells #[.slice (some ⟨g, 0, none⟩) (k + 1) cap] 31) = X := ⟨_, rfl⟩
        have b8 : Below W7.heap.size W7 W8 := by rw [← hW8]; exact (Below.refl _ _).alloc (Nat.le_refl _) _
        have m8 : W8.heap[W7.heap.size]? = some (.cells #[.slice (some ⟨g, 0, none⟩) (k + 1) cap] 31 (0, 0)) := by rw [← hW8]; exact hnew _ rfl
        have q8 : W8.cell? ⟨W7.heap.size, 0, none⟩ = some (.slice (some ⟨g, 0, none⟩) (k + 1) cap) := by simp [World.cell?, m8]
        have hB8 : Below w.heap.size w W8 := hB7.trans (b8.mono hB7.size)
        have hI : ((k : Nat) : Int) + 1 ≤ 64 := by omega
        obtain ⟨i8, o8⟩ := HE.out W8 hB8
        have CS := sure_any W8 i8 o8
        clear i8 o8 C6 b6 b7 b8 m8
        go_wp2_with fail
        go_at_call 7
        refine CS.mono ?_
        rintro e W9 ⟨rfl, b9⟩
        go_wp2
        go_ret
        exact ⟨rfl, hB8.trans (b9.mono hB8.size)⟩
      · have hB7 : Below w.heap.size w W7 := hB6.trans (b7.mono hB6.size)
        have hB8 : Below w.heap.size w (W7.alloc (Obj.cells #[.slice none 0 0] 31)) := hB7.alloc hB7.size _
        have hI : ¬ ((k : Nat) : Int) + 1 ≤ 64 := by omega
        clear C6 b6 b7
        go_wp2_with fail
        go_at_call 4
        refine (P63.out _).mono ?_
        rintro e W9 ⟨rfl, b9⟩
        have hB9 : Below w.heap.size w W9 := hB8.trans (b9.mono hB8.size)
        go_wp2_with fail
        go_at_call 4
        refine (P64.out _).mono ?_
        rintro e W10 ⟨rfl, b10⟩
        have hB10 : Below w.heap.size w W10 := hB9.trans (b10.mono hB9.size)
        have hN := HN.out
        obtain ⟨i8, o8⟩ := HE.out W10 hB10
        have CS := sure_any W10 i8 o8
        clear i8 o8
        go_wp2_with fail
        go_at_call 7
        refine CS.mono ?_
        rintro e W11 ⟨rfl, b11⟩
        go_wp2
        go_ret
        exact ⟨rfl, hB10.trans (b11.mono hB10.size)⟩
end GrM
end Go.Proofs.YtfehmdfamndcaaaGreatDoor
