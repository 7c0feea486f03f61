/- Own text. Which texts are property names: package tree. -/
import Derived.Test.YtadkmlcnmkdfiaaGreatDoorF3
namespace Go.Proofs.YtadkmlcnmkdfiaaGreatDoor
open Go.RowKit
set_option linter.unusedVariables false

/-- may a rune stand in an identifier or property name? -/
def okR (mod first : Bool) (r : Int) : Bool := letterB r || (r == 95) || ((r == 36) && !mod) || (digitB r && !first)
def restB (mod : Bool) (l : List UInt8) : Bool := (scan l).all fun x => okR mod false x.1
def propT (mod : Bool) (l : List UInt8) : Bool := match scan l with
  | [] => false
  | h :: t => okR mod true h.1 && t.all fun x => okR mod false x.1
/-- the value of a former. -/
def fmV (v : Value) (mod : Bool) : Value := .agg #[v, .bool mod]
set_option maxRecDepth 100000 in
set_option maxHeartbeats 8000000 in
theorem isProp_any (w : World) (v : Value) (mod : Bool) (s : ByteArray) (h : WAt w v) : Calls Tryz.prog 155 #[fmV v mod, .string s] w fun e w' => e = .returned (.bool (propT mod s.data.toList)) ∧ Below w.heap.size w w' := by
  obtain ⟨bl, t, rfl, hb⟩ := h
  unfold fmV
  obtain ⟨W0, hW0⟩ : ∃ W, w.alloc (Obj.cells #[Value.slice (some { block := bl, off := 0 }) 19 19, Value.bool mod] 95) = W := ⟨_, rfl⟩
  have bel0 : Below w.heap.size w W0 := by rw [← hW0]; exact bel_a _ _
  have hs0 : w.heap.size < W0.heap.size := by rw [← hW0]; simp
  have hc0 : ∀ pos, (W0.iter s pos).cell? ⟨w.heap.size, 1, none⟩ = some (.bool mod) := fun pos => by
    have e : (W0.iter s pos).heap[w.heap.size]? = some (.cells #[Value.slice (some { block := bl, off := 0 }) 19 19, Value.bool mod] 95 (0, 0)) := by
      show (W0.heap.push _)[w.heap.size]? = _
      rw [Array.getElem?_push, if_neg (by omega), ← hW0]
      exact hnew _ rfl
    simp [World.cell?, e]
  have hit : ∀ pos, Below w.heap.size w (W0.iter s pos) := fun pos => bel0.trans ⟨rfl, rfl, rfl, by show _ ≤ (W0.heap.push _).size; simp, fun k hk => by
    show (W0.heap.push _)[k]? = _
    rw [Array.getElem?_push, if_neg (by omega)]⟩
  go_enter Tryz.func155, Tryz.ntmps155
  go_wp2
  go_loopw [] (fun w' => ∃ (pos : Nat), w' = W0.iter s pos ∧ pos ≤ s.size ∧ Hid (pos = 0 ∨ (0 < pos ∧ propT mod s.data.toList = restB mod (s.data.toList.drop pos)))) (fun w' => s.size - w'.iterPos W0.heap.size)
  case atStart => exact ⟨0, rfl, by omega, .inl rfl⟩
  case round =>
    obtain ⟨pos, rfl, hb, HR⟩ := hrel
    by_cases hp : pos < s.size
    · have hnx : ∀ ty, (Instr.next (.pointer (some ⟨W0.heap.size, 0, none⟩)) true ty).run Tryz.prog (W0.iter s pos) = _ := fun ty => run_next_dec W0 s pos ty hp
      have hwd := (decL_width (s.data.toList.drop pos)).1
      have hwl := width_le s pos hp
      have sd := scan_drop s pos hp
      obtain ⟨d, hd⟩ : ∃ d, d = decL (s.data.toList.drop pos) := ⟨_, rfl⟩
      have HY : Hid (okR mod (decide (pos = 0)) d.1 = true → propT mod s.data.toList = restB mod (s.data.toList.drop (pos + d.2))) := fun ho => by
        rw [hd] at ho ⊢
        rcases HR.out with rfl | ⟨h0, h1⟩
        · rw [List.drop_zero] at sd
          unfold propT
          rw [sd]
          simp only [Nat.zero_add, List.drop_zero] at ho ⊢
          simp only [decide_true] at ho
          simp [ho, restB]
        · rw [h1]
          unfold restB
          rw [sd, List.all_cons]
          have e : decide (pos = 0) = false := by simp; omega
          rw [e] at ho
          simp [ho]
      have HN : Hid (okR mod (decide (pos = 0)) d.1 = false → propT mod s.data.toList = false) := fun ho => by
        rw [hd] at ho
        rcases HR.out with rfl | ⟨h0, h1⟩
        · rw [List.drop_zero] at sd
          unfold propT
          rw [sd]
          simp only [List.drop_zero] at ho ⊢
          simp only [decide_true] at ho
          simp [ho]
        · rw [h1]
          unfold restB
          rw [sd, List.all_cons]
          have e : decide (pos = 0) = false := by simp; omega
          rw [e] at ho
          simp [ho]
      clear HR sd
      rw [← hd] at hnx hwd hwl
      clear hd
      have hl := fun W => letter_any d.1 W
      have hg := fun W => digit_any d.1 W
      generalize (d.1 : Int) = r at *
      by_cases hlt : letterB r = true
      · rw [hlt] at hl
        go_wp2_with (first
          | (go_at_call 175; refine (hl _).mono ?_; rintro e w' ⟨rfl, rfl⟩)
          | (go_at_call 176; refine (hg _).mono ?_; rintro e w' ⟨rfl, rfl⟩))
        go_roundw
        case rel => exact ⟨_, rfl, hwl, .inr ⟨by omega, HY.out (by simp [okR, hlt])⟩⟩
        case measure => simp; omega
      have hlt : letterB r = false := by simpa using hlt
      rw [hlt] at hl
      by_cases h95 : r = 95
      · subst h95
        go_wp2_with (first
          | (go_at_call 175; refine (hl _).mono ?_; rintro e w' ⟨rfl, rfl⟩)
          | (go_at_call 176; refine (hg _).mono ?_; rintro e w' ⟨rfl, rfl⟩))
        go_roundw
        case rel => exact ⟨_, rfl, hwl, .inr ⟨by omega, HY.out (by simp [okR])⟩⟩
        case measure => simp; omega
      by_cases h36 : r = 36
      · subst h36
        rw [show digitB 36 = false by rfl] at hg
        cases mod
        · go_wp2_with (first
            | (go_at_call 175; refine (hl _).mono ?_; rintro e w' ⟨rfl, rfl⟩)
            | (go_at_call 176; refine (hg _).mono ?_; rintro e w' ⟨rfl, rfl⟩))
          go_roundw
          case rel => exact ⟨_, rfl, hwl, .inr ⟨by omega, HY.out (by simp [okR])⟩⟩
          case measure => simp; omega
        · go_wp2_with (first
            | (go_at_call 175; refine (hl _).mono ?_; rintro e w' ⟨rfl, rfl⟩)
            | (go_at_call 176; refine (hg _).mono ?_; rintro e w' ⟨rfl, rfl⟩))
          go_ret
          exact ⟨ret_bool (HN.out (by rw [okR, hlt, show digitB 36 = false by rfl]; rfl)).symm, hit _⟩
      by_cases hdg : digitB r = true
      · rw [hdg] at hg
        by_cases hpz : pos = 0
        · subst hpz
          go_wp2_with (first
            | (go_at_call 175; refine (hl _).mono ?_; rintro e w' ⟨rfl, rfl⟩)
            | (go_at_call 176; refine (hg _).mono ?_; rintro e w' ⟨rfl, rfl⟩))
          go_ret
          exact ⟨ret_bool (HN.out (by rw [okR, hlt, hdg]; simp [h95, h36])).symm, hit _⟩
        · have hpz' : 0 < pos := by omega
          go_wp2_with (first
            | (go_at_call 175; refine (hl _).mono ?_; rintro e w' ⟨rfl, rfl⟩)
            | (go_at_call 176; refine (hg _).mono ?_; rintro e w' ⟨rfl, rfl⟩))
          go_roundw
          case rel => exact ⟨_, rfl, hwl, .inr ⟨by omega, HY.out (by rw [okR, hlt, hdg]; simp [hpz])⟩⟩
          case measure => simp; omega
      have hdg : digitB r = false := by simpa using hdg
      rw [hdg] at hg
      go_wp2_with (first
        | (go_at_call 175; refine (hl _).mono ?_; rintro e w' ⟨rfl, rfl⟩)
        | (go_at_call 176; refine (hg _).mono ?_; rintro e w' ⟨rfl, rfl⟩))
      go_ret
      exact ⟨ret_bool (HN.out (by rw [okR, hlt, hdg]; simp [h95, h36])).symm, hit _⟩
    · have hnx : ∀ ty, (Instr.next (.pointer (some ⟨W0.heap.size, 0, none⟩)) true ty).run Tryz.prog (W0.iter s pos) = _ := fun ty => run_next_end W0 s pos ty hp
      have e : s.data.toList.drop pos = [] := drop_end s pos hp
      by_cases hz : s.size = 0
      · have HZ : Hid (propT mod s.data.toList = false) := by
          show _ = _
          have : s.data.toList = [] := by
            have := hz
            rw [Lib.size_eq] at this
            exact List.length_eq_zero_iff.1 this
          rw [this]; rfl
        have hs : s.toList = [] := by
          rw [bytes_toList]
          rw [Lib.size_eq] at hz
          exact List.length_eq_zero_iff.1 hz
        clear HR e
        go_wp2
        go_ret
        exact ⟨ret_bool (by rw [HZ.out]; try simp), hit _⟩
      · have HZ : Hid (propT mod s.data.toList = true) := by
          show _ = _
          rcases HR.out with h | ⟨_, h⟩
          · omega
          · rw [h, e]; rfl
        have hs : ¬ s.toList = [] := by
          rw [bytes_toList]
          rw [Lib.size_eq] at hz
          intro h
          exact hz (by rw [h]; rfl)
        clear HR e
        go_wp2
        go_ret
        exact ⟨ret_bool (by rw [HZ.out]; try simp [hs]), hit _⟩

def unaryL : List (List UInt8) := [[45], [33], [116, 121, 112, 101, 111, 102]]
def binaryL : List (List UInt8) := [[43], [45], [42], [47], [37], [61, 61, 61], [33, 61, 61], [60], [60, 61], [62], [62, 61], [38, 38], [124, 124]]
set_option maxHeartbeats 4000000 in
theorem isUnary_any (w : World) (s : ByteArray) : Calls Tryz.prog 157 #[.string s] w fun e w' => e = .returned (.bool (decide (s.data.toList ∈ unaryL))) ∧ w' = w := by
  rw [← bytes_toList]
  go_enter Tryz.func157, Tryz.ntmps157
  go_wp2
  all_goals go_ret
  all_goals exact ⟨ret_bool (by simp_all [unaryL]), rfl⟩
set_option maxHeartbeats 4000000 in
theorem isBinary_any (w : World) (s : ByteArray) : Calls Tryz.prog 158 #[.string s] w fun e w' => e = .returned (.bool (decide (s.data.toList ∈ binaryL))) ∧ w' = w := by
  rw [← bytes_toList]
  go_enter Tryz.func158, Tryz.ntmps158
  go_wp2
  all_goals go_ret
  all_goals exact ⟨ret_bool (by simp_all [binaryL]), rfl⟩

def idT (mod : Bool) (s : ByteArray) : Bool := propT mod s.data.toList && !isW s
set_option maxHeartbeats 4000000 in
theorem isId_any (w : World) (v : Value) (mod : Bool) (s : ByteArray) (h : WAt w v) : Calls Tryz.prog 154 #[fmV v mod, .string s] w fun e w' => e = .returned (.bool (idT mod s)) ∧ Below w.heap.size w w' := by
  obtain ⟨a, ha⟩ : ∃ a, v = .slice a 19 19 := by obtain ⟨bl, t, rfl, _⟩ := h; exact ⟨_, rfl⟩
  have hp := fun W (b : Below w.heap.size w W) => isProp_any W v mod s (h.bel b)
  have hc := fun W (b : Below w.heap.size w W) => contains_any W v s (h.bel b)
  subst ha
  unfold fmV at hp ⊢
  have e1 : ∀ o W1, Below (w.alloc o).heap.size (w.alloc o) W1 → Below w.heap.size w W1 ∧ W1.cell? ⟨w.heap.size, 0, none⟩ = (w.alloc o).cell? ⟨w.heap.size, 0, none⟩ := fun o W1 b => ⟨(bel_a w o).trans (b.mono (by simp)), b.cell (p := ⟨w.heap.size, 0, none⟩) (by simp)⟩
  unfold idT
  cases hpt : propT mod s.data.toList
  · rw [hpt] at hp
    go_enter Tryz.func154, Tryz.ntmps154
    go_wp2_with (go_at_call 155; refine (hp _ (bel_a _ _)).mono ?_; rintro e W1 ⟨rfl, b1⟩)
    go_ret
    exact ⟨rfl, (e1 _ _ b1).1⟩
  · rw [hpt] at hp
    go_enter Tryz.func154, Tryz.ntmps154
    go_wp2_with (first
      | (go_at_call 155; refine (hp _ (bel_a _ _)).mono ?_; rintro e W1 ⟨rfl, b1⟩; obtain ⟨b2, c2⟩ := e1 _ _ b1; simp at c2)
      | (go_at_call 174; refine (hc _ b2).mono ?_; rintro e W2 ⟨rfl, rfl⟩))
    go_ret
    exact ⟨ret_bool (by simp), b2⟩

/-- is a text of that sort? -/
def saysT (mod : Bool) (t : Int) (s : ByteArray) : Bool :=
  if t = 1 then idT mod s
  else if t = 2 then propT mod s.data.toList
  else if t = 3 then propT mod s.data.toList && (s.toList != [99, 111, 110, 115, 116, 114, 117, 99, 116, 111, 114])
  else if t = 4 then propT mod s.data.toList || (s.toList == [42])
  else if t = 5 then idT mod s || (s.toList == [110, 117, 108, 108]) || (s.toList == [117, 110, 100, 101, 102, 105, 110, 101, 100])
  else if t = 6 then validL s.data.toList
  else if t = 7 then decide (s.data.toList ∈ unaryL)
  else if t = 8 then decide (s.data.toList ∈ binaryL)
  else s.toList == []
set_option maxRecDepth 100000 in
set_option maxHeartbeats 8000000 in
theorem says_any (w : World) (v : Value) (mod : Bool) (t : Int) (s : ByteArray) (h : WAt w v) : Calls Tryz.prog 123 #[fmV v mod, .int .i64 t, .string s] w fun e w' => e = .returned (.bool (saysT mod t s)) ∧ Below w.heap.size w w' := by
  obtain ⟨a, ha⟩ : ∃ a, v = .slice a 19 19 := by obtain ⟨bl, t, rfl, _⟩ := h; exact ⟨_, rfl⟩
  have hp := fun W (b : Below w.heap.size w W) => isProp_any W v mod s (h.bel b)
  have hi := fun W (b : Below w.heap.size w W) => isId_any W v mod s (h.bel b)
  have hv := fun W => valid_any s W
  have hu := fun W => isUnary_any W s
  have hb := fun W => isBinary_any W s
  subst ha
  unfold fmV at hp hi ⊢
  have e1 : ∀ o W1, Below (w.alloc o).heap.size (w.alloc o) W1 → Below w.heap.size w W1 := fun o W1 b => (bel_a w o).trans (b.mono (by simp))
  unfold saysT
  generalize propT mod s.data.toList = pb at *
  generalize idT mod s = ib at *
  generalize validL s.data.toList = vb at *
  generalize decide (s.data.toList ∈ unaryL) = ub at *
  generalize decide (s.data.toList ∈ binaryL) = bb at *
  cases pb <;> cases ib
  all_goals
    go_enter Tryz.func123, Tryz.ntmps123
    go_wp2_with (first
      | (go_at_call 155; refine (hp _ (bel_a _ _)).mono ?_; rintro e W1 ⟨rfl, b1⟩; replace b1 := e1 _ _ b1)
      | (go_at_call 154; refine (hi _ (bel_a _ _)).mono ?_; rintro e W1 ⟨rfl, b1⟩; replace b1 := e1 _ _ b1)
      | (go_at_call 156; refine (hv _).mono ?_; rintro e W1 ⟨rfl, b1⟩; replace b1 := e1 _ _ b1)
      | (go_at_call 157; refine (hu _).mono ?_; rintro e W1 ⟨rfl, rfl⟩)
      | (go_at_call 158; refine (hb _).mono ?_; rintro e W1 ⟨rfl, rfl⟩))
    all_goals go_ret
    all_goals exact ⟨ret_bool (by clear hp hi hv hu hb e1; first | (simp_all; done) | (simp_all [bne]; done)), by first | exact b1 | exact bel_a _ _⟩
end Go.Proofs.YtadkmlcnmkdfiaaGreatDoor
