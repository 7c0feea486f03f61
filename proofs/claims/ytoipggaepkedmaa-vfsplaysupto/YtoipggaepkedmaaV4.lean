/- Own text. Which lists of files Load takes: loadable of package vfs and Fit of the document's answer say the same. -/
import Derived.Test.YtoipggaepkedmaaV2
import Derived.Deep.RegionHeld3
namespace Go.Proofs.Ytoipggaepkedmaa
open Go.RowKit Go.Maps
set_option linter.unusedVariables false

/-- may the file at place i stand there? -/
def fitAt (F : Fls) : Nat → Bool
  | 0 => decide ((F.getD 0 (ByteArray.empty, ByteArray.empty)).2.size ≤ 65536)
  | i + 1 => decide ((F.getD (i + 1) (ByteArray.empty, ByteArray.empty)).2.size ≤ 65536) && lessB (F.getD i (ByteArray.empty, ByteArray.empty)).1 (F.getD (i + 1) (ByteArray.empty, ByteArray.empty)).1
def fitB (F : Fls) : Bool := (List.range F.length).all (fitAt F)

theorem fitB_false {F : Fls} {i : Nat} (hi : i < F.length) (h : fitAt F i = false) : fitB F = false := by
  unfold fitB
  rw [List.all_eq_false]
  exact ⟨i, List.mem_range.2 hi, by simp [h]⟩
theorem fitB_true {F : Fls} (h : ∀ i, i < F.length → fitAt F i = true) : fitB F = true := by
  unfold fitB
  rw [List.all_eq_true]
  exact fun i hi => h i (List.mem_range.1 hi)
theorem fitB_at {F : Fls} (h : fitB F = true) (i : Nat) (hi : i < F.length) : fitAt F i = true := List.all_eq_true.1 h i (List.mem_range.2 hi)
theorem fitB_size {F : Fls} (h : fitB F = true) : ∀ x ∈ F, x.2.size ≤ 65536 := by
  intro x hx
  obtain ⟨i, hi, rfl⟩ := List.getElem_of_mem hx
  have := fitB_at h i hi
  cases i with
  | zero => simpa [fitAt, hi] using this
  | succ i => simp [fitAt, hi] at this; exact this.1
theorem fitB_ris {F : Fls} (h : fitB F = true) : Ris F := by
  have step : ∀ i (hi : i + 1 < F.length), lessB F[i].1 F[i + 1].1 = true := fun i hi => by
    have := fitB_at h (i + 1) hi
    have h0 : i < F.length := by omega
    simp [fitAt, hi, h0] at this
    exact this.2
  refine List.pairwise_iff_getElem.2 fun i j hi hj hij => ?_
  induction j with
  | zero => omega
  | succ j ih =>
    by_cases e : i = j
    · subst e; exact step i hj
    · exact lessB_trans (ih (by omega) (by omega)) (step j hj)
theorem fitAt_zero {F : Fls} {x : ByteArray × ByteArray} (h : 0 < F.length) (hx : F[0] = x) : fitAt F 0 = decide (x.2.size ≤ 65536) := by
  subst hx; simp [fitAt, h]
theorem fitAt_succ {F : Fls} {i : Nat} {x y : ByteArray × ByteArray} (h : i + 1 < F.length) (hx : F[i] = x) (hy : F[i + 1] = y) : fitAt F (i + 1) = (decide (y.2.size ≤ 65536) && lessB x.1 y.1) := by
  subst hx hy
  have : i < F.length := by omega
  simp [fitAt, h, this]

theorem wrap_small (k : Nat) (h : k < 9223372036854775808) : IntKind.i64.wrap (k : Int) = (k : Int) := by
  rw [IntKind.wrap_i64]
  omega

set_option maxHeartbeats 4000000 in
set_option maxRecDepth 100000 in
theorem loadable_any (w : World) (v : Value) (F : Fls) (h : FAt w v F) (hF : F.length < 4611686018427387904) :
    Calls Try.prog 31 #[v] w fun e w' => e = .returned (.bool (fitB F)) ∧ Below w.heap.size w w' := by
  rcases h with ⟨rfl, a, c, rfl⟩ | ⟨bl, of, c, rfl, hc, hbl⟩
  · go_enter Try.func31, Try.ntmps31
    go_wp2
    go_rounds 1
    go_ret
    exact ⟨rfl, Below.refl _ _⟩
  · go_enter Try.func31, Try.ntmps31
    go_wp2
    go_loopw [7] (fun i wr => ∃ k : Nat, i = .int .i64 (k : Nat) ∧ k ≤ F.length ∧ Below w.heap.size w wr ∧ Hid (∀ j, j < k → fitAt F j = true)) (fun i _ => F.length - (intOf i).toNat)
    case atStart => exact ⟨0, rfl, by omega, Below.refl _ _, fun j hj => by omega⟩
    case round =>
      obtain ⟨k, rfl, hk, hbw, HT⟩ := hrel
      have hsw := hbw.size
      by_cases hkl : k < F.length
      · have hcw := fun i hi => hc i hi
        obtain ⟨c1, c2⟩ := hc k hkl
        rw [← hbw.cell hbl] at c1 c2
        have HN : Hid (fitAt F k = true → ∀ j, j < k + 1 → fitAt F j = true) := fun hf j hj => by
          by_cases e : j = k
          · subst e; exact hf
          · exact HT.out j (by omega)
        have HX : Hid (fitAt F k = false → fitB F = false) := fun hf => fitB_false hkl hf
        have hn1 := World.new_ne wr _ c1
        have hbA := fun o => hbw.alloc hsw o
        cases k with
        | zero =>
          have HE : Hid (fitAt F 0 = decide (F[0].2.size ≤ 65536)) := fitAt_zero hkl rfl
          generalize F[0] = x at *
          obtain ⟨p, b⟩ := x
          simp only [Nat.zero_mul, Nat.add_zero] at c1 c2 HE hn1
          by_cases hs : b.size ≤ 65536
          · have hd : decide ((65536 : Int) < (b.size : Int)) = false := decide_eq_false (by omega)
            have HR : Hid (∀ j, j < 0 + 1 → fitAt F j = true) := HN.out (by rw [HE.out]; exact decide_eq_true hs)
            go_wp2
            go_quiet (fail)
            go_wp2
            go_roundw
            case rel => exact ⟨1, by simp, by omega, below_drewN (hbA _) _, HR⟩
            case measure => simp [intOf]; omega
          · have hd : (65536 : Int) < (b.size : Int) := by omega
            have HR : Hid (fitB F = false) := HX.out (by rw [HE.out]; exact decide_eq_false hs)
            go_wp2
            go_quiet (fail)
            go_wp2
            go_ret
            exact ⟨by rw [HR.out]; rfl, below_drewN (hbA _) _⟩
        | succ k =>
          obtain ⟨d1, d2⟩ := hc k (by omega)
          rw [← hbw.cell hbl] at d1 d2
          have HE : Hid (fitAt F (k + 1) = (decide (F[k + 1].2.size ≤ 65536) && lessB F[k].1 F[k + 1].1)) := fitAt_succ hkl rfl rfl
          generalize F[k + 1] = x at *
          generalize F[k] = y at *
          obtain ⟨p, b⟩ := x
          obtain ⟨p', b'⟩ := y
          simp only at c1 c2 d1 d2 HE
          by_cases hs : b.size ≤ 65536
          · have hd : decide ((65536 : Int) < (b.size : Int)) = false := decide_eq_false (by omega)
            have hk0 : (0 : Int) < (k : Int) + 1 := by omega
            have hblw : bl < wr.heap.size := by omega
            have hdA := fun o => (((Below.refl _ wr).alloc (Nat.le_refl _) o).cell (p := ⟨bl, of + k * 2, none⟩) hblw).trans d1
            have hwk : IntKind.i64.wrap (k : Int) = (k : Int) := wrap_small k (by omega)
            have hki0 : (0 : Int) ≤ (k : Int) := by omega
            have hki1 : (k : Int) < (F.length : Int) := by omega
            cases hlb : lessB p' p
            · have HR : Hid (fitB F = false) := HX.out (by rw [HE.out, hlb]; simp)
              have hbl2 : Op.bytesLess p'.toList p.toList = false := hlb
              go_wp2
              go_quiet (fail)
              go_wp2
              go_ret
              exact ⟨by rw [HR.out]; rfl, below_drewN (hbA _) _⟩
            · have HR : Hid (∀ j, j < k + 1 + 1 → fitAt F j = true) := HN.out (by rw [HE.out, hlb, decide_eq_true hs]; rfl)
              have hbl2 : Op.bytesLess p'.toList p.toList = true := hlb
              go_wp2
              go_quiet (fail)
              go_wp2
              go_roundw
              case rel => exact ⟨k + 2, by simp; omega, by omega, below_drewN (hbA _) _, HR⟩
              case measure => simp [intOf]; omega
          · have hd : (65536 : Int) < (b.size : Int) := by omega
            have HR : Hid (fitB F = false) := HX.out (by rw [HE.out]; simp [hs])
            go_wp2
            go_quiet (fail)
            go_wp2
            go_ret
            exact ⟨by rw [HR.out]; rfl, below_drewN (hbA _) _⟩
      · have HR : Hid (fitB F = true) := fitB_true (fun i hi => HT.out i (by omega))
        go_wp2
        go_ret
        exact ⟨by rw [HR.out]; rfl, hbw⟩

end Go.Proofs.Ytoipggaepkedmaa
