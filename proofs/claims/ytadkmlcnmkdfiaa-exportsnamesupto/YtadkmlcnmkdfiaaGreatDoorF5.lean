/- Own text. What stands together: lists of trees asked by a function: package tree. -/
import Derived.Test.YtadkmlcnmkdfiaaGreatDoorF4
namespace Go.Proofs.YtadkmlcnmkdfiaaGreatDoor
open Go.RowKit
set_option linter.unusedVariables false

/-- a function value that answers a bool of a tree of the list. -/
def Asks (w : World) (S : Nat → Prop) (fv : Value) (l : List Nd) (q : Nd → Bool) : Prop :=
  ∃ (f : FuncId) (cap : Array Value), fv = .func (.func f) #[] cap ∧ ∀ y ∈ l, ∀ (W : World) (v : Value), Below w.heap.size w W → LAt W S v y.ks → Calls Tryz.prog f (#[y.v v] ++ cap) W fun e W' => e = .returned (.bool (q y)) ∧ Below W.heap.size W W'

set_option maxRecDepth 100000 in
set_option maxHeartbeats 4000000 in
theorem indexFunc_any (w : World) (S : Nat → Prop) (l : List Nd) (v : Value) (f : FuncId) (cap : Array Value) (q : Nd → Bool) (hx : LAt w S v l) (hl : l.length ≤ 4194304) (ent : ∀ args w, (callFunc f args).run Tryz.prog w = .ok (.enter f args) w)
    (hq : ∀ y ∈ l, ∀ (W : World) (v : Value), Below w.heap.size w W → LAt W S v y.ks → Calls Tryz.prog f (#[y.v v] ++ cap) W fun e W' => e = .returned (.bool (q y)) ∧ Below W.heap.size W W') :
    Calls Tryz.prog 178 #[v, .func (.func f) #[] cap] w fun e w' => ∃ i : Int, e = .returned (.int .i64 i) ∧ Below w.heap.size w w' ∧ ((i = -1 ∧ ∀ y ∈ l, q y = false) ∨ ∃ (k : Nat) (hk : k < l.length), i = k ∧ q l[k] = true ∧ ∀ y ∈ l.take k, q y = false) := by
  obtain ⟨ax, cx, bx, ox, fx, rfl, px, qx, rx⟩ := hx.op
  go_enter Tryz.func178, Tryz.ntmps178
  go_wp2
  go_loopw [8] (fun i wr => ∃ k : Nat, i = .int .i64 (k : Nat) ∧ k ≤ l.length ∧ Below w.heap.size w wr ∧ Hid (∀ y ∈ l.take k, q y = false)) (fun i _ => l.length - (intOf i).toNat)
  case atStart => exact ⟨0, rfl, by omega, Below.refl _ _, by simp [Hid]⟩
  case round =>
    obtain ⟨k, rfl, hk, bel, HT⟩ := hrel
    by_cases hkl : k < l.length
    · obtain ⟨rfl, hSx, hbx⟩ := px (by omega)
      obtain ⟨⟨u1, u2, u3, u4⟩, gx⟩ := kid_at (qx k hkl) (rx k hkl) hbx bel
      have hcall := hq l[k] (List.getElem_mem hkl) wr (fx k) bel gx
      have HQ : Hid (q l[k] = true → ∃ (k' : Nat) (hk : k' < l.length), (k : Int) = k' ∧ q l[k'] = true ∧ ∀ y ∈ l.take k', q y = false) := fun h => ⟨k, hkl, rfl, h, HT.out⟩
      have HS : Hid (q l[k] = false → ∀ y ∈ l.take (k + 1), q y = false) := fun h y hy => by
        rw [List.take_succ_eq_append_getElem hkl] at hy
        rcases List.mem_append.1 hy with hy | hy
        · exact HT.out y hy
        · obtain rfl : y = l[k] := by simpa using hy
          exact h
      clear hq HT
      generalize l[k] = y at *
      generalize fx k = fy at *
      cases hqy : q y
      · rw [hqy] at hcall
        have HT' := HS.out hqy
        have HT2 : Hid (∀ y ∈ l.take (k + 1), q y = false) := HT'
        clear HT' HS HQ
        go_wp2_with fail
        refine hcall.mono ?_
        rintro e W1 ⟨rfl, b1⟩
        go_wp2
        go_roundw
        case rel => exact ⟨k + 1, by simp, by omega, bel.trans (b1.mono bel.size), HT2⟩
        case measure => simp [intOf]; omega
      · rw [hqy] at hcall
        have HQ2 : Hid (∃ (k' : Nat) (hk : k' < l.length), (k : Int) = k' ∧ q l[k'] = true ∧ ∀ y ∈ l.take k', q y = false) := HQ.out hqy
        clear HS HQ
        go_wp2_with fail
        refine hcall.mono ?_
        rintro e W1 ⟨rfl, b1⟩
        go_wp2
        go_ret
        exact ⟨_, rfl, bel.trans (b1.mono bel.size), .inr HQ2.out⟩
    · have e : l.take k = l := List.take_of_length_le (by omega)
      rw [e] at HT
      clear e hq
      go_wp2
      go_ret
      exact ⟨_, rfl, bel, .inl ⟨rfl, HT.out⟩⟩
end Go.Proofs.YtadkmlcnmkdfiaaGreatDoor
