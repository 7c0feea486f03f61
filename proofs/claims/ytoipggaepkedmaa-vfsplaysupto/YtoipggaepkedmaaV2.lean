/- Own text. Lists of files in memory ('FAt'), and what Same of the document's answer says of two. -/
import Derived.Test.YtoipggaepkedmaaV1
import Derived.Deep.QuietTactic
import Derived.BigQuiet
import Derived.Handy
namespace Go.Proofs.Ytoipggaepkedmaa
open Go.RowKit Go.Maps
set_option linter.unusedVariables false

/-- the cells from an address on hold these files. -/
def Cells (w : World) (bl of : Nat) (F : Fls) : Prop := ∀ i (h : i < F.length), w.cell? ⟨bl, of + i * 2, none⟩ = some (.string F[i].1) ∧ w.cell? ⟨bl, of + i * 2 + 1, none⟩ = some (.string F[i].2)
/-- v is a list of these files. -/
def FAt (w : World) (v : Value) (F : Fls) : Prop := (F = [] ∧ ∃ a c, v = .slice a 0 c) ∨ ∃ bl of c, v = .slice (some ⟨bl, of, none⟩) F.length c ∧ Cells w bl of F ∧ bl < w.heap.size

theorem Cells.off {S : Nat → Prop} {w w' : World} {bl of : Nat} {F : Fls} (h : Cells w bl of F) (k : Off S w w') (hb : bl < w.heap.size) (hS : ¬ S bl) : Cells w' bl of F := fun i hi => by
  have := h i hi
  have e := k.block bl hb hS
  exact ⟨(World.cell?_of_block (a := ⟨bl, _, none⟩) e).trans this.1, (World.cell?_of_block (a := ⟨bl, _, none⟩) e).trans this.2⟩
theorem FAt.off {S : Nat → Prop} {w w' : World} {v : Value} {F : Fls} (h : FAt w v F) (k : Off S w w') (hS : ∀ j, v.ownBlock = some j → ¬ S j) : FAt w' v F := by
  rcases h with h | ⟨bl, of, c, rfl, hc, hb⟩
  · exact .inl h
  · exact .inr ⟨bl, of, c, rfl, hc.off k hb (hS bl rfl), Nat.lt_of_lt_of_le hb k.size⟩
theorem FAt.below {B : Nat} {w w' : World} {v : Value} {F : Fls} (h : FAt w v F) (k : Below B w w') (hB : ∀ j, v.ownBlock = some j → j < B) : FAt w' v F := by
  rcases h with h | ⟨bl, of, c, rfl, hc, hb⟩
  · exact .inl h
  · refine .inr ⟨bl, of, c, rfl, fun i hi => ?_, Nat.lt_of_lt_of_le hb k.size⟩
    have := hc i hi
    have e := k.block bl (hB bl rfl)
    exact ⟨(World.cell?_of_block (a := ⟨bl, _, none⟩) e).trans this.1, (World.cell?_of_block (a := ⟨bl, _, none⟩) e).trans this.2⟩
theorem FAt.lt {w : World} {v : Value} {F : Fls} (h : FAt w v F) (hF : F ≠ []) : ∀ j, v.ownBlock = some j → j < w.heap.size := by
  rcases h with h | ⟨bl, of, c, rfl, hc, hb⟩
  · exact absurd h.1 hF
  · intro j hj; cases hj; exact hb

/-- the cells of files, one behind the other. -/
def flat (F : Fls) : List Value := F.flatMap fun x => [.string x.1, .string x.2]
theorem flat_nil : flat [] = [] := rfl
theorem flat_cons (x : ByteArray × ByteArray) (F : Fls) : flat (x :: F) = .string x.1 :: .string x.2 :: flat F := rfl
theorem flat_append (F G : Fls) : flat (F ++ G) = flat F ++ flat G := by simp [flat]
theorem flat_length : ∀ F : Fls, (flat F).length = F.length * 2
  | [] => rfl
  | x :: F => by rw [flat_cons]; simp [flat_length F]; omega
theorem flat_get : ∀ (F : Fls) (i : Nat) (h : i < F.length), (flat F)[i * 2]? = some (.string F[i].1) ∧ (flat F)[i * 2 + 1]? = some (.string F[i].2)
  | x :: F, 0, _ => by simp [flat_cons]
  | x :: F, i + 1, h => by
    have := flat_get F i (by simpa using h)
    rw [flat_cons, show (i + 1) * 2 = i * 2 + 1 + 1 by omega]
    simpa using this
theorem flat_oneCell (F : Fls) : ∀ u ∈ flat F, u.oneCell' = true := by
  intro u hu
  simp only [flat, List.mem_flatMap] at hu
  obtain ⟨x, _, hx⟩ := hu
  simp at hx
  rcases hx with rfl | rfl <;> rfl

/-- what a row that is owned holds. -/
theorem fat_of_row {w : World} {base : Nat} {v : Value} {F : Fls} (h : w.ownsRow base 44 2 v F.length (flat F)) : FAt w v F := by
  rcases h.2 with ⟨rfl, h0⟩ | ⟨g, cap, cur, rfl, hb, hg, _, _, hcs, htk⟩
  · exact .inl ⟨List.length_eq_zero_iff.1 h0, none, 0, rfl⟩
  · refine .inr ⟨g, 0, cap, rfl, fun i hi => ?_, (Array.getElem?_eq_some_iff.1 hg).1⟩
    have hf := flat_get F i hi
    rw [← htk] at hf
    have c1 : w.cell? ⟨g, 0 + i * 2, none⟩ = cur[0 + i * 2]? := cell_of_row w g _ _ _ _ hg
    have c2 : w.cell? ⟨g, 0 + i * 2 + 1, none⟩ = cur[0 + i * 2 + 1]? := cell_of_row w g _ _ _ _ hg
    rw [c1, c2]
    have g1 : ∀ j, j < F.length * 2 → (cur.toList.take (F.length * 2))[j]? = cur[j]? := fun j hj => by rw [List.getElem?_take_of_lt hj]; simp
    rw [g1 _ (by omega), g1 _ (by omega)] at hf
    rw [Nat.zero_add]
    exact hf

def sameB (F G : Fls) : Bool := decide (F = G)

theorem drewN_two (w : World) (n m : Nat) : (w.drewN n).drewN m = w.drewN (n + m) := by simp [World.drewN, Nat.add_assoc]

theorem neq_file (W : World) (p b p' b' : ByteArray) : (binOp .neq 44 (.agg #[.string p, .string b]) (.agg #[.string p', .string b'])).run Try.prog W = .ok (.bool (!(eqB p p' && eqB b b'))) W := by
  have hs : ∀ a b : ByteArray, (Op.equalIn 9999 9 (.string a) (.string b)).run Try.prog W = .ok (a.toList == b.toList) W := fun a b => run_equalIn_string W 9998 9 a b Try.underlying9
  rw [run_neq_struct, run_equalIn_agg W 9999 44 _ _ (by kernel_rfl) (by kernel_rfl)]
  have e : (Try.prog.fieldsOf 44).toList = [{ name := "Path", type := 9, offset := 0, embedded := false, tag := "", pkgPath := "", byteOffset := 0 }, { name := "Bytes", type := 9, offset := 1, embedded := false, tag := "", pkgPath := "", byteOffset := 16 }] := by kernel_rfl
  rw [e]
  go_simp
  by_cases h1 : p.toList = p'.toList
  · by_cases h2 : b.toList = b'.toList
    · simp [h1, h2, eqB]
    · simp [h1, h2, eqB]
  · simp [h1, eqB]

set_option maxHeartbeats 1000000 in
theorem same_any (w : World) (va vb : Value) (F G : Fls) (ha : FAt w va F) (hb : FAt w vb G) (hF : F.length < 4611686018427387904) (hG : G.length < 4611686018427387904) :
    Calls Try.prog 12 #[va, vb] w fun e w' => e = .returned (.bool (sameB F G)) ∧ ∃ n, w' = w.drewN n := by
  obtain ⟨aa, ca, rfl⟩ : ∃ a c, va = .slice a F.length c := by
    rcases ha with ⟨rfl, a, c, rfl⟩ | ⟨bl, of, c, rfl, _⟩
    · exact ⟨a, c, rfl⟩
    · exact ⟨_, c, rfl⟩
  obtain ⟨ab, cb, rfl⟩ : ∃ a c, vb = .slice a G.length c := by
    rcases hb with ⟨rfl, a, c, rfl⟩ | ⟨bl, of, c, rfl, _⟩
    · exact ⟨a, c, rfl⟩
    · exact ⟨_, c, rfl⟩
  by_cases hl : F.length = G.length
  · by_cases h0 : F.length = 0
    · have e1 := List.length_eq_zero_iff.1 h0
      have e2 := List.length_eq_zero_iff.1 (hl ▸ h0)
      subst e1 e2
      go_enter Try.func12, Try.ntmps12
      go_wp2
      go_rounds 1
      go_ret
      exact ⟨rfl, 0, rfl⟩
    · rcases ha with ⟨rfl, _⟩ | ⟨bl, of, c, e, hca, _⟩
      · exact absurd rfl h0
      rcases hb with ⟨rfl, _⟩ | ⟨bl', of', c', e', hcb, _⟩
      · exact absurd hl h0
      cases e
      cases e'
      go_enter Try.func12, Try.ntmps12
      go_wp2
      go_loopw [5] (fun i wr => ∃ k n : Nat, i = .int .i64 (k : Nat) ∧ k ≤ F.length ∧ wr = w.drewN n ∧ Hid (F.take k = G.take k)) (fun i _ => F.length - (intOf i).toNat)
      case atStart => exact ⟨0, 0, rfl, by omega, rfl, by simp [Hid]⟩
      case round =>
        obtain ⟨k, n, rfl, hk, rfl, HT⟩ := hrel
        by_cases hkl : k < F.length
        · have hkl' : k < G.length := by omega
          obtain ⟨a1, a2⟩ := hca k hkl
          obtain ⟨b1, b2⟩ := hcb k hkl'
          have HA : Hid (F.take (k + 1) = F.take k ++ [F[k]]) := by simp [Hid]
          have HB : Hid (G.take (k + 1) = G.take k ++ [G[k]]) := by simp [Hid]
          have HN : Hid (F[k] ≠ G[k] → sameB F G = false) := fun hne => by
            unfold sameB
            rw [decide_eq_false_iff_not]
            rintro rfl
            exact hne rfl
          generalize F[k] = x at *
          generalize G[k] = y at *
          obtain ⟨x1, x2⟩ := x
          obtain ⟨y1, y2⟩ := y
          have hnq := fun W => neq_file W x1 x2 y1 y2
          simp only at a1 a2 b1 b2
          cases he : (eqB x1 y1 && eqB x2 y2)
          · simp only [he] at hnq
            have HR : Hid (sameB F G = false) := HN.out (fun e => by cases e; simp [eqB_self] at he)
            go_wp2
            go_quiet (fail)
            go_wp2
            go_ret
            exact ⟨by rw [HR.out]; rfl, _, drewN_two w n _⟩
          · simp only [he] at hnq
            have HE : Hid (F.take (k + 1) = G.take (k + 1)) := by
              rw [Bool.and_eq_true, eqB_iff, eqB_iff] at he
              obtain ⟨rfl, rfl⟩ := he
              rw [HA.out, HB.out, HT.out]
              trivial
            go_wp2
            go_quiet (fail)
            go_wp2
            go_roundw
            case rel => exact ⟨k + 1, _, by simp, by omega, rfl, HE⟩
            case measure => simp [intOf]; omega
        · have HR : Hid (sameB F G = true) := by
            have e := HT.out
            rw [List.take_of_length_le (by omega), List.take_of_length_le (by omega)] at e
            unfold sameB
            rw [decide_eq_true e]
            trivial
          go_wp2
          go_ret
          exact ⟨by rw [HR.out]; rfl, n, rfl⟩
  · have HR : Hid (sameB F G = false) := by
      unfold sameB
      rw [decide_eq_false (fun e => hl (by rw [e]))]
      trivial
    go_enter Try.func12, Try.ntmps12
    go_wp2
    go_ret
    exact ⟨by rw [HR.out]; rfl, 0, rfl⟩

end Go.Proofs.Ytoipggaepkedmaa
