/- Own text. The walk over a path's parts, and Normal, Join. -/
import Derived.Test.YtlogohcfahmilaaP2
import Derived.Lib.AppendStr
import Derived.Laws.BytesString
import Derived.Laws.OwnMore
import Derived.OwnWalk
import Derived.Maps.AppendAt
import Derived.Deep.LoopGhost
namespace Go.Proofs.Ytlogohcfahmilaa
open Go.RowKit
set_option linter.unusedVariables false

/-- bytes as cells. -/
def cellsB (l : Bs) : List Value := l.map fun b => .int .u8 b.toNat
theorem cellsB_length (l : Bs) : (cellsB l).length = l.length := by simp [cellsB]
theorem cellsB_app (a b : Bs) : cellsB (a ++ b) = cellsB a ++ cellsB b := by simp [cellsB]

abbrev Kept (w : World) (base : Nat) (v : Value) (l : Bs) : Prop := w.ownsRow base 5 1 v l.length (cellsB l)

theorem row_form {w : World} {base : Nat} {e : TypeId} {size : Nat} {v : Value} {n : Nat} {xs : List Value} (h : w.ownsRow base e size v n xs) : ∃ A c, v = .slice A n c := by
  rcases h.2 with ⟨rfl, rfl⟩ | ⟨g, cap, cur, rfl, _⟩
  · exact ⟨_, _, rfl⟩
  · exact ⟨_, _, rfl⟩
theorem row_some {w : World} {base : Nat} {e : TypeId} {size : Nat} {v : Value} {n : Nat} {xs : List Value} (h : w.ownsRow base e size v n xs) (hn : 0 < n) : ∃ g c, v = .slice (some ⟨g, 0, none⟩) n c ∧ base ≤ g ∧ n ≤ c := by
  rcases h.2 with ⟨rfl, rfl⟩ | ⟨g, cap, cur, rfl, h1, h2, h3, _⟩
  · omega
  · exact ⟨_, _, rfl, h1, h3⟩
theorem row_cut {w : World} {base : Nat} {e : TypeId} {size g cap n k : Nat} {xs : List Value} (h : w.ownsRow base e size (.slice (some ⟨g, 0, none⟩) n cap) n xs) (hk : k ≤ n) : w.ownsRow base e size (.slice (some ⟨g, 0, none⟩) k cap) k (xs.take (k * size)) := by
  obtain ⟨h1, h2⟩ := h
  have hm : k * size ≤ n * size := Nat.mul_le_mul_right _ hk
  refine ⟨by rw [List.length_take, h1]; omega, ?_⟩
  rcases h2 with ⟨h0, _⟩ | ⟨g', cap', cur, hv, hg, hh, hn, hcap, hsz, htake⟩
  · cases h0
  · cases hv
    refine .inr ⟨g, cap, cur, rfl, hg, hh, by omega, hcap, hsz, ?_⟩
    rw [← htake, List.take_take, Nat.min_eq_left hm]
theorem row_same {w w' : World} {base : Nat} {e : TypeId} {size : Nat} {v : Value} {n : Nat} {xs : List Value} (h : w.ownsRow base e size v n xs) (hh : w'.heap = w.heap) : w'.ownsRow base e size v n xs := by
  unfold World.ownsRow at *
  rw [hh]
  exact h

def strLen : Value → Nat
  | .string s => s.size
  | _ => 0
def boolN : Value → Nat
  | .bool true => 1
  | _ => 0

theorem next_some {X : Option (List Bs)} {L L' : List Bs} {R q r : Bs} {b : Bool} (hw : X = walkL L (splitS R)) (hsp : splitS R = q :: (if b then splitS r else [])) (hst : step L q = some L') : X = if b then walkL L' (splitS r) else some L' := by
  rw [hw, hsp]
  cases b <;> simp [walkL, hst]
theorem next_none {X : Option (List Bs)} {L : List Bs} {R q r : Bs} {b : Bool} (hw : X = walkL L (splitS R)) (hsp : splitS R = q :: (if b then splitS r else [])) (hst : step L q = none) : X = none := by
  rw [hw, hsp]
  simp [walkL, hst]

theorem kept_app {w : World} {base : Nat} {v : Value} {l : Bs} {q : ByteArray} (h : w.ownsRow base 5 1 v (l.length + 1 + q.size) (cellsB l ++ [.int .u8 47] ++ Lib.strCells q)) : Kept w base v (l ++ 47 :: q.data.toList) := by
  have e1 : (l ++ 47 :: q.data.toList).length = l.length + 1 + q.size := by rw [Lib.size_eq]; simp; omega
  have e2 : cellsB (l ++ 47 :: q.data.toList) = cellsB l ++ [.int .u8 47] ++ Lib.strCells q := by
    rw [cellsB_app, List.append_assoc]
    rfl
  unfold Kept
  rw [e1, e2]
  exact h

theorem info_u8 : (Try.prog.info? 5).map (fun i => (i.zero, i.size, i.bytes)) = some (some (.int .u8 0), 1, 1) := by kernel_rfl

set_option maxHeartbeats 4000000 in
set_option maxRecDepth 100000 in
theorem walk_any (s : ByteArray) (w : World) (hs : s.size < 140737488355328) : Calls Try.prog 18 #[.string s] w fun e w' =>
    Below w.heap.size w w' ∧ ((walkL [] (splitS s.data.toList) = none ∧ e = .returned (.tuple #[.slice none 0 0, .bool false])) ∨
      ∃ L kv, walkL [] (splitS s.data.toList) = some L ∧ e = .returned (.tuple #[kv, .bool true]) ∧ Kept w' w.heap.size kv (joinS L)) := by
  obtain ⟨i0, hi, hz0, hz1, hz2⟩ := info_parts info_u8
  go_enter Try.func18, Try.ntmps18
  go_wp2
  go_step3
  go_wp2
  go_step3
  go_wp2
  go_loopg [0, 4, 6] (s.size + 1) (fun gh v0 v4 v6 W => ∃ (L : List Bs) (R : ByteArray) (m : Bool), v0 = .string R ∧ v6 = .bool m ∧ gh = (if m then R.size + 1 else 0) ∧ (∀ x ∈ L, Good x) ∧ Kept W w.heap.size v4 (joinS L) ∧ Below w.heap.size w W ∧
      Hid (walkL [] (splitS s.data.toList) = if m then walkL L (splitS R.data.toList) else some L) ∧ (joinS L).length + gh ≤ s.size + 1)
  case atStart => exact ⟨[], s, true, rfl, rfl, by simp, by simp, World.ownsRow_nil _ _ _ _, Below.refl _ _, by simp [Hid], by simp [joinS]⟩
  case round =>
    obtain ⟨L, R, m, rfl, rfl, hgk, hg, hown, hb, hw, hlen⟩ := hrel
    cases m
    · go_wp2
      rw [Exit.noGoto_ret]
      go_ret2
      exact ⟨hb, .inr ⟨L, _, by simpa [Hid] using hw.out, rfl, hown⟩⟩
    · simp only [if_true] at hgk hw
      go_wp2_with fail
      refine (cut_any R _ (by omega)).mono ?_
      rintro e W1 ⟨q, r, b, rfl, hb1, hh1, h47, hsp, hsz⟩
      have hown1 : Kept W1 w.heap.size u4 (joinS L) := row_same hown hh1
      have hbW : Below w.heap.size w W1 := hb.trans (hb1.mono hb.size)
      have HI : Hid (splitS R.data.toList = q.data.toList :: (if b then splitS r.data.toList else []) ∧ 47 ∉ q.data.toList) := ⟨hsp, h47⟩
      obtain ⟨gh, hgh⟩ : ∃ gh, gh = (if b then r.size + 1 else 0) := ⟨_, rfl⟩
      have HG : Hid (gh = (if b then r.size + 1 else 0)) := hgh
      rw [← hgh] at hsz
      clear hsp h47 hgh hh1 hb1 hown hb
      by_cases q0 : q.data.toList = []
      · have c1 : q.toList.isEmpty = true := by rw [Lib.toList_data, q0]; rfl
        have hst : step L q.data.toList = some L := by rw [q0]; exact step_none L
        have HW : Hid (walkL [] (splitS s.data.toList) = if b then walkL L (splitS r.data.toList) else some L) := next_some hw.out HI.out.1 hst
        clear q0 hst
        go_wp2
        go_roundg gh
        case measure => omega
        case rel => exact ⟨L, r, b, rfl, rfl, HG.out, hg, hown1, hbW, HW, by omega⟩
      · have c1 : q.toList.isEmpty = false := by
          rw [Lib.toList_data]
          cases h : q.data.toList with
          | nil => exact absurd h q0
          | cons _ _ => rfl
        by_cases q1 : q.data.toList = [46]
        · have c2 : (q.toList == [46]) = true := by rw [Lib.toList_data, q1]; rfl
          have hst : step L q.data.toList = some L := by rw [q1]; exact step_dot L
          have HW : Hid (walkL [] (splitS s.data.toList) = if b then walkL L (splitS r.data.toList) else some L) := next_some hw.out HI.out.1 hst
          clear q0 q1 hst
          go_wp2
          go_roundg gh
          case measure => omega
          case rel => exact ⟨L, r, b, rfl, rfl, HG.out, hg, hown1, hbW, HW, by omega⟩
        · have c2 : (q.toList == [46]) = false := by rw [Lib.toList_data]; simpa using q1
          by_cases q2 : q.data.toList = [46, 46]
          · have c3 : (q.toList == [46, 46]) = true := by rw [Lib.toList_data, q2]; rfl
            by_cases hL : L = []
            · subst hL
              have hst : step [] q.data.toList = none := by rw [q2]; simp [step]
              have HW : Hid (walkL [] (splitS s.data.toList) = none) := next_none hw.out HI.out.1 hst
              obtain ⟨A4, c4, rfl⟩ := row_form hown1
              clear q0 q1 q2 hst
              go_wp2
              go_loopg [7] 0 (fun _ v7 W => v7 = .int .i64 (-1) ∧ W = W1)
              case atStart => exact ⟨by first | rfl | simp, rfl⟩
              case round =>
                obtain ⟨rfl, rfl⟩ := hrel
                go_wp2
                rw [Exit.noGoto_ret]
                go_ret2
                exact ⟨hbW, .inl ⟨HW.out, rfl⟩⟩
            · obtain ⟨M, p0, rfl⟩ := snoc_of hL
              have hp0 := hg p0 (by simp)
              have hst : step (M ++ [p0]) q.data.toList = some M := by rw [q2]; simp [step]
              have HW : Hid (walkL [] (splitS s.data.toList) = if b then walkL M (splitS r.data.toList) else some M) := next_some hw.out HI.out.1 hst
              have hjl : (joinS (M ++ [p0])).length = (joinS M).length + 1 + p0.length := by rw [joinS_snoc]; simp; omega
              obtain ⟨g, c, rfl, hgb, hnc⟩ := row_some hown1 (by omega)
              have hce : ∀ j (hj : j < (joinS (M ++ [p0])).length), W1.cell? ⟨g, j, none⟩ = some (.int .u8 ((joinS (M ++ [p0]))[j]).toNat) := fun j hj => by
                rw [hown1.cellAt j (by omega)]
                simp [cellsB, hj]
              obtain ⟨n, hn⟩ : ∃ n, n = (joinS (M ++ [p0])).length := ⟨_, rfl⟩
              have HC : Hid ((∀ j (hj : j < (joinS (M ++ [p0])).length), W1.cell? ⟨g, j, none⟩ = some (.int .u8 ((joinS (M ++ [p0]))[j]).toNat)) ∧ n = (joinS (M ++ [p0])).length) := ⟨hce, hn⟩
              have HN : Hid (n = (joinS M).length + 1 + p0.length) := by show _ = _; omega
              have hMn : (joinS M).length < n := by omega
              rw [← hn] at hnc hlen
              clear hce q0 q1 q2 hst hL hjl
              rw [← hn]
              clear hn
              go_wp2
              go_loopg [4, 7] (n - 1) (fun g7 v4 v7 W => ∃ j : Nat, j = g7 ∧ (joinS M).length ≤ j ∧ j < n ∧ v4 = .slice (some ⟨g, 0, none⟩) n c ∧ v7 = .int .i64 (j : Int) ∧ W = W1)
              case atStart => exact ⟨n - 1, rfl, by omega, by omega, rfl, by congr 1; omega, rfl⟩
              case round =>
                obtain ⟨j, rfl, hj1, hj2, rfl, rfl, rfl⟩ := hrel
                have hjl : j < (joinS (M ++ [p0])).length := by have := HC.out.2; omega
                have hcell := HC.out.1 j hjl
                by_cases hj : j = (joinS M).length
                · have hx : (joinS (M ++ [p0]))[j] = 47 := by
                    apply Option.some.inj
                    rw [← List.getElem?_eq_getElem hjl, joinS_snoc, List.getElem?_append_right (by omega)]
                    simp [hj]
                  rw [hx] at hcell
                  have hk : Kept wr w.heap.size (.slice (some ⟨g, 0, none⟩) j c) (joinS M) := by
                    have h1 := row_cut hown1 (k := j) (by omega)
                    have h2 : (cellsB (joinS (M ++ [p0]))).take (j * 1) = cellsB (joinS M) := by
                      rw [joinS_snoc, cellsB_app, Nat.mul_one, hj, ← cellsB_length (joinS M)]
                      exact List.take_left
                    rw [h2] at h1
                    unfold Kept
                    rw [← hj]
                    exact h1
                  have hjc : (j : Int) ≤ (c : Int) := by omega
                  clear hx hj HC
                  have HK : Hid (Kept wr w.heap.size (.slice (some ⟨g, 0, none⟩) j c) (joinS M)) := hk
                  clear hk
                  go_wp2
                  go_roundg gh
                  case measure => omega
                  case rel => exact ⟨M, r, b, rfl, rfl, HG.out, fun x hx => hg x (by simp [hx]), HK.out, hbW, HW, by omega⟩
                · have hx : (joinS (M ++ [p0]))[j] ≠ 47 := fun e => by
                    have e1 : (joinS (M ++ [p0]))[j]? = some 47 := by rw [List.getElem?_eq_getElem hjl, e]
                    rw [joinS_snoc, List.getElem?_append_right (by omega)] at e1
                    obtain ⟨k, hk⟩ : ∃ k, j - (joinS M).length = k + 1 := ⟨j - (joinS M).length - 1, by omega⟩
                    rw [hk, List.getElem?_cons_succ] at e1
                    exact hp0.plain (List.mem_of_getElem? e1)
                  generalize (joinS (M ++ [p0]))[j] = x at *
                  have hx2 : ((x.toNat : Nat) : Int) ≠ 47 := fun e => hx (UInt8.toNat_inj.1 (by simpa using (Int.ofNat_inj.1 (by simpa using e) : x.toNat = 47)))
                  clear hx HC
                  go_wp2
                  go_roundg (j - 1)
                  case measure => omega
                  case rel => exact ⟨j - 1, rfl, by omega, by omega, rfl, by congr 1; omega, rfl⟩
          · have c3 : (q.toList == [46, 46]) = false := by rw [Lib.toList_data]; simpa using q2
            have hqs : q.size ≤ R.size := by omega
            cases hsg : q.data.toList.all signB
            · have hst : step L q.data.toList = none := by simp [step, q0, q1, q2, hsg]
              have HW : Hid (walkL [] (splitS s.data.toList) = none) := next_none hw.out HI.out.1 hst
              clear q0 q1 q2 hst
              go_wp2_with (go_at_call 25; refine (signs_any _ _ (by omega)).mono ?_; rintro e W2 ⟨rfl, rfl⟩; rw [hsg])
              rw [Exit.noGoto_ret]
              go_ret2
              exact ⟨hbW, .inl ⟨HW.out, rfl⟩⟩
            · have hgood : Good q.data.toList := ⟨q0, q1, q2, hsg⟩
              have HW : Hid (walkL [] (splitS s.data.toList) = if b then walkL (L ++ [q.data.toList]) (splitS r.data.toList) else some (L ++ [q.data.toList])) := next_some hw.out HI.out.1 (step_good hgood)
              have hjl : (joinS (L ++ [q.data.toList])).length = (joinS L).length + 1 + q.size := by rw [joinS_snoc, Lib.size_eq]; simp; omega
              clear q0 q1 q2
              have tok1 : True := trivial
              go_wp2_with (first
                | (go_at_call 25; refine (signs_any _ _ (by omega)).mono ?_; rintro e W2 ⟨rfl, rfl⟩; rw [hsg])
                | (at_builtin; have _t := tok1; refine wpList_append_own _ rfl _ _ 35 rfl w.heap.size 5 i0 (.int .u8 0) 1 1 Try.underlying35 hi hz0 hz1 hz2 rfl (by decide) _ _ _ rfl (hown1.alloc _) ⟨_, 0, none⟩ 1 1 [.int .u8 47] rfl rfl (cell_one_new _ _ _) (ints_oneCell .u8 [47]) (by unfold maxLen; omega) (by omega) (by have := hbW.size; simp; omega) ?_; intro v1 W3 ho1 hg1 hn1; clear tok1)
                | (at_builtin; refine Lib.wpList_append_own_string _ rfl _ _ 35 9 rfl w.heap.size 5 i0 Try.underlying35 Try.underlying9 hi hz0 hz1 hz2 _ _ _ rfl ho1 q rfl (by unfold maxLen; omega) (by omega) (by have h1 := hbW.size; have h2 := hg1.size; simp at h2; omega) ?_; intro v2 W4 ho2 hg2 hn2))
              go_roundg gh
              case measure => omega
              case rel =>
                refine ⟨L ++ [q.data.toList], r, b, rfl, rfl, HG.out, ?_, ?_, ?_, HW, by omega⟩
                · intro x hx
                  rcases List.mem_append.1 hx with hx | hx
                  · exact hg x hx
                  · rw [List.mem_singleton.1 hx]; exact hgood
                · rw [joinS_snoc]; exact kept_app ho2
                · have hb2 : Below w.heap.size w W3 := (hbW.alloc hbW.size _).grown hg1 (by have := hbW.size; simp; omega) (fun j hj => (hown1.lt j hj).1)
                  exact hb2.grown hg2 hb2.size (fun j hj => (ho1.lt j hj).1)
end Go.Proofs.Ytlogohcfahmilaa
