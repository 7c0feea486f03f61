/- Own text. The document's reader of blanks and notes. All tokens: how many bytes a token has; the list unfolds. The document's Lex. -/
import Derived.Test.YtpnljjcdlkjfhaaGreatDoorRv19
import Derived.Test.YtpnljjcdlkjfhaaGreatDoorRv23
import Derived.Maps.AppendAt
set_option linter.unusedVariables false
namespace Go.Proofs.YtpnljjcdlkjfhaaGreatDoor
open Go.RowKit
theorem ret_ib2 {k : IntKind} {a c : Int} {b d : Bool} (h : a = c) (h2 : b = d) : Ending.returned (.tuple #[.int k a, .bool b]) = .returned (.tuple #[.int k c, .bool d]) := by rw [h, h2]

set_option maxHeartbeats 8000000 in
set_option maxRecDepth 100000 in
theorem past_any (s : ByteArray) (w : World) (hs : s.size ≤ 140737488355328) : Calls Tryz.prog 185 #[.string s] w fun e w' => e = .returned (.tuple #[.int .i64 ((pastL s.data.toList).1 : Nat), .bool (pastL s.data.toList).2]) ∧ w' = w := by
  go_enter Tryz.func185, Tryz.ntmps185
  go_wp2
  go_loopw [4] (fun v4 W => ∃ i : Nat, v4 = .int .i64 i ∧ i ≤ s.size ∧ W = w ∧ Hid (pastL s.data.toList = (i + (pastL (s.data.toList.drop i)).1, (pastL (s.data.toList.drop i)).2))) (fun v4 _ => s.size - (intOf v4).toNat)
  case atStart => exact ⟨0, rfl, Nat.zero_le _, rfl, by simp [Hid]⟩
  case round =>
    obtain ⟨i, rfl, hi, rfl, hh⟩ := hrel
    by_cases hil : i < s.size
    · have hil2 : (i : Int) < (s.size : Int) := by omega
      have hby := byteO s i hil
      have hbl := isBl_of s[i]
      cases hib : isBl s[i]
      · rw [hib] at hbl
        have hbl2 := hbl.symm
        simp only [Bool.or_eq_false_iff, decide_eq_false_iff_not] at hbl2
        obtain ⟨⟨⟨n9, n10⟩, n13⟩, n32⟩ := hbl2
        have b9 := int_eqb n9
        have b10 := int_eqb n10
        have b13 := int_eqb n13
        have b32 := int_eqb n32
        clear hbl n9 n10 n13 n32
        by_cases h47 : s[i] = 47
        · have hx : ((s[i].toNat : Nat) : Int) = 47 := by rw [h47]; rfl
          by_cases hi1 : i + 1 < s.size
          · have hi2 : (i : Int) + 1 < (s.size : Int) := by omega
            have hby1 := byteO s (i + 1) hi1
            by_cases g47 : s[i + 1] = 47
            · have hy : ((s[i + 1].toNat : Nat) : Int) = 47 := by rw [g47]; rfl
              have hp := past_line (l := s.data.toList) (i := i) (by rw [hby, h47]) (by rw [hby1, g47])
              have h1 : 1 ≤ lineL (s.data.toList.drop i) := by
                have := lineL_go (l := s.data.toList) (j := i) (by rw [hby]) (by rw [h47]; decide)
                omega
              have HP : Hid (pastL (s.data.toList.drop i) = ((pastL (s.data.toList.drop (i + lineL (s.data.toList.drop i)))).1 + lineL (s.data.toList.drop i), (pastL (s.data.toList.drop (i + lineL (s.data.toList.drop i)))).2)) := hp
              clear hp hby hby1 h47 g47 hib
              go_wp2
              go_loopw [4] (fun v4 W => ∃ j : Nat, v4 = .int .i64 j ∧ i ≤ j ∧ j ≤ s.size ∧ W = wr ∧ Hid (lineL (s.data.toList.drop i) = (j - i) + lineL (s.data.toList.drop j))) (fun v4 _ => s.size - (intOf v4).toNat)
              case atStart => exact ⟨i, rfl, Nat.le_refl _, hi, rfl, by simp [Hid]⟩
              case round =>
                obtain ⟨j, rfl, hij, hj, rfl, hl⟩ := hrel
                clear b9 b10 b13 b32 hx hy
                by_cases hjl : j < s.size
                · have hjl2 : (j : Int) < (s.size : Int) := by omega
                  have hbj := byteO s j hjl
                  by_cases j10 : s[j] = 10
                  · have hz : ((s[j].toNat : Nat) : Int) = 10 := by rw [j10]; rfl
                    have e0 := lineL_end (l := s.data.toList) (j := j) (.inl (by rw [hbj, j10]))
                    have HR : Hid (pastL s.data.toList = (j + (pastL (s.data.toList.drop j)).1, (pastL (s.data.toList.drop j)).2) ∧ i < j) := by
                      have e1 := hl.out
                      have e2 := HP.out
                      rw [e0] at e1
                      rw [show i + lineL (s.data.toList.drop i) = j from by omega] at e2
                      refine ⟨?_, by omega⟩
                      rw [hh.out, e2]
                      simp only [Prod.mk.injEq, and_true]
                      omega
                    clear e0 j10 hbj hl HP
                    go_wp2
                    go_roundw
                    case rel => exact ⟨j, rfl, hj, by simp, HR.out.1⟩
                    case measure => have := HR.out.2; simp [intOf]; omega
                  · have hz : (((s[j].toNat : Nat) : Int) == 10) = false := int_eqb (fun e => j10 (u8_eq (n := 10) (by omega) e))
                    have hl2 : Hid (lineL (s.data.toList.drop i) = (j + 1 - i) + lineL (s.data.toList.drop (j + 1))) := by
                      show _ = _
                      rw [hl.out, lineL_go (by rw [hbj]) j10]
                      omega
                    clear j10 hbj hl
                    go_wp2
                    go_roundw
                    case rel => exact ⟨j + 1, by simp, by omega, by omega, by simp, hl2⟩
                    case measure => simp [intOf]; omega
                · have hjl2 : ¬ (j : Int) < (s.size : Int) := by omega
                  have e0 := lineL_end (l := s.data.toList) (j := j) (.inr (by rw [← Lib.size_eq]; omega))
                  have HR : Hid (pastL s.data.toList = (j + (pastL (s.data.toList.drop j)).1, (pastL (s.data.toList.drop j)).2) ∧ i < j) := by
                    have e1 := hl.out
                    have e2 := HP.out
                    rw [e0] at e1
                    rw [show i + lineL (s.data.toList.drop i) = j from by omega] at e2
                    refine ⟨?_, by omega⟩
                    rw [hh.out, e2]
                    simp only [Prod.mk.injEq, and_true]
                    omega
                  clear e0 hl HP
                  go_wp2
                  go_roundw
                  case rel => exact ⟨j, rfl, hj, by simp, HR.out.1⟩
                  case measure => have := HR.out.2; simp [intOf]; omega
            · have hy7 : (((s[i + 1].toNat : Nat) : Int) == 47) = false := int_eqb (fun e => g47 (u8_eq (n := 47) (by omega) e))
              by_cases g42 : s[i + 1] = 42
              · have hy : ((s[i + 1].toNat : Nat) : Int) = 42 := by rw [g42]; rfl
                have hp := past_note (l := s.data.toList) (i := i) (by rw [hby, h47]) (by rw [hby1, g42])
                have HP : Hid (pastL (s.data.toList.drop i) = match noteL (s.data.toList.drop (i + 2)) with
                    | none => (0, false)
                    | some k => ((pastL (s.data.toList.drop (i + 2 + k))).1 + (k + 2), (pastL (s.data.toList.drop (i + 2 + k))).2)) := hp
                clear hp hby hby1 h47 g47 g42 hib
                go_wp2
                go_loopw [5] (fun v5 W => ∃ k : Nat, v5 = .int .i64 k ∧ i + 2 ≤ k ∧ k ≤ s.size ∧ W = wr ∧ Hid (noteL (s.data.toList.drop (i + 2)) = (noteL (s.data.toList.drop k)).map (· + (k - (i + 2))))) (fun v5 _ => s.size - (intOf v5).toNat)
                case atStart => exact ⟨i + 2, by simp, Nat.le_refl _, by omega, rfl, by simp [Hid]⟩
                case round =>
                  obtain ⟨k, rfl, hik, hk, rfl, hl⟩ := hrel
                  clear b9 b10 b13 b32 hx hy hy7
                  by_cases hkl : k + 1 < s.size
                  · have hkl2 : (k : Int) + 1 < (s.size : Int) := by omega
                    have hkl3 : (k : Int) < (s.size : Int) := by omega
                    have hkl4 : ¬ (s.size : Int) ≤ (k : Int) + 1 := by omega
                    have hbk := byteO s k (by omega)
                    have hbk1 := byteO s (k + 1) hkl
                    by_cases k42 : s[k] = 42 ∧ s[k + 1] = 47
                    · have hz1 : ((s[k].toNat : Nat) : Int) = 42 := by rw [k42.1]; rfl
                      have hz2 : ((s[k + 1].toNat : Nat) : Int) = 47 := by rw [k42.2]; rfl
                      have HR : Hid (pastL s.data.toList = (k + 2 + (pastL (s.data.toList.drop (k + 2))).1, (pastL (s.data.toList.drop (k + 2))).2)) := by
                        have e1 := hl.out
                        have e2 := HP.out
                        rw [noteL_hit (l := s.data.toList) (j := k) (by rw [hbk, k42.1]) (by rw [hbk1, k42.2])] at e1
                        rw [e1] at e2
                        simp only [Option.map_some] at e2
                        rw [show i + 2 + (2 + (k - (i + 2))) = k + 2 from by omega] at e2
                        show _ = _
                        rw [hh.out, e2]
                        simp only [Prod.mk.injEq, and_true]
                        omega
                      clear k42 hbk hbk1 hl HP
                      go_wp2
                      go_roundw
                      case rel => exact ⟨k + 2, by simp, by omega, by simp, HR⟩
                      case measure => simp [intOf]; omega
                    · have hl2 : Hid (noteL (s.data.toList.drop (i + 2)) = (noteL (s.data.toList.drop (k + 1))).map (· + (k + 1 - (i + 2)))) := by
                        show _ = _
                        rw [hl.out, noteL_go (by rw [hbk]) (fun h => k42 ⟨h.1, by rw [hbk1] at h; exact Option.some.inj h.2⟩), Option.map_map]
                        congr 1
                        funext x
                        simp only [Function.comp]
                        omega
                      by_cases k1 : s[k] = 42
                      · have hz1 : ((s[k].toNat : Nat) : Int) = 42 := by rw [k1]; rfl
                        have hz2 : (((s[k + 1].toNat : Nat) : Int) == 47) = false := int_eqb (fun e => k42 ⟨k1, u8_eq (n := 47) (by omega) e⟩)
                        clear k42 hbk hbk1 hl k1
                        go_wp2
                        go_roundw
                        case rel => exact ⟨k + 1, by simp, by omega, by omega, by simp, hl2⟩
                        case measure => simp [intOf]; omega
                      · have hz1 : (((s[k].toNat : Nat) : Int) == 42) = false := int_eqb (fun e => k1 (u8_eq (n := 42) (by omega) e))
                        clear k42 hbk hbk1 hl k1
                        go_wp2
                        go_roundw
                        case rel => exact ⟨k + 1, by simp, by omega, by omega, by simp, hl2⟩
                        case measure => simp [intOf]; omega
                  · have hkl2 : ¬ (k : Int) + 1 < (s.size : Int) := by omega
                    have hkl4 : (s.size : Int) ≤ (k : Int) + 1 := by omega
                    have HR : Hid (pastL s.data.toList = (i, false)) := by
                      have e1 := hl.out
                      have e2 := HP.out
                      rw [noteL_out (l := s.data.toList) (j := k) (by rw [← Lib.size_eq]; omega)] at e1
                      rw [e1] at e2
                      show _ = _
                      rw [hh.out, e2]
                      rfl
                    clear hl HP
                    go_wp2
                    go_ret2
                    exact ⟨ret_ib2 (by rw [HR.out]) (by rw [HR.out]), rfl⟩
              · have hy2 : (((s[i + 1].toNat : Nat) : Int) == 42) = false := int_eqb (fun e => g42 (u8_eq (n := 42) (by omega) e))
                have HR : Hid (pastL s.data.toList = (i, true)) := by
                  show _ = _
                  rw [hh.out, past_stop (by rw [hby]) hib (fun h => g47 (by rw [hby1] at h; exact Option.some.inj h.2)) (fun h => g42 (by rw [hby1] at h; exact Option.some.inj h.2))]
                  rfl
                clear hby hby1 h47 g47 g42 hib hh
                go_wp2
                go_ret2
                exact ⟨ret_ib2 (by rw [HR.out]) (by rw [HR.out]), rfl⟩
          · have hi2 : ¬ (i : Int) + 1 < (s.size : Int) := by omega
            have hno : s.data.toList[i + 1]? = none := List.getElem?_eq_none (by rw [← Lib.size_eq]; omega)
            have HR : Hid (pastL s.data.toList = (i, true)) := by
              show _ = _
              rw [hh.out, past_stop (by rw [hby]) hib (fun h => by rw [hno] at h; cases h.2) (fun h => by rw [hno] at h; cases h.2)]
              rfl
            clear hby h47 hib hh hno
            go_wp2
            go_ret2
            exact ⟨ret_ib2 (by rw [HR.out]) (by rw [HR.out]), rfl⟩
        · have hx : (((s[i].toNat : Nat) : Int) == 47) = false := int_eqb (fun e => h47 (u8_eq (n := 47) (by omega) e))
          have HR : Hid (pastL s.data.toList = (i, true)) := by
            show _ = _
            rw [hh.out, past_stop (by rw [hby]) hib (fun h => h47 h.1) (fun h => h47 h.1)]
            rfl
          clear hby h47 hib hh
          go_wp2
          go_ret2
          exact ⟨ret_ib2 (by rw [HR.out]) (by rw [HR.out]), rfl⟩
      · rw [hib] at hbl
        have hbl2 := hbl.symm
        simp only [Bool.or_eq_true, decide_eq_true_eq] at hbl2
        have HR : Hid (pastL s.data.toList = (i + 1 + (pastL (s.data.toList.drop (i + 1))).1, (pastL (s.data.toList.drop (i + 1))).2)) := by
          show _ = _
          rw [hh.out, past_blank (by rw [hby]) hib]
          simp only [Prod.mk.injEq, and_true]
          omega
        clear hby hib hh hbl
        rcases hbl2 with ((hx | hx) | hx) | hx
        all_goals
          go_wp2
          go_roundw
          case rel => exact ⟨i + 1, by simp, by omega, by simp, HR⟩
          case measure => simp [intOf]; omega
    · have hil2 : ¬ (i : Int) < (s.size : Int) := by omega
      have HR : Hid (pastL s.data.toList = (i, true)) := by
        show _ = _
        rw [hh.out, drop_end s i hil]
        rfl
      clear hh
      go_wp2
      go_ret2
      exact ⟨ret_ib2 (by rw [HR.out]) (by rw [HR.out]), rfl⟩

end Go.Proofs.YtpnljjcdlkjfhaaGreatDoor
set_option linter.unusedVariables false
namespace Go.Proofs.YtpnljjcdlkjfhaaGreatDoor
theorem unqS_len : ∀ (m : Nat) (l : Bs) (u : Unq) (pos : Nat) (t : Bs) (n : Nat), l.length ≤ m → unqS (scan l) u pos = some (t, n) → pos + 1 ≤ n ∧ n ≤ pos + l.length
  | m, [], u, pos, t, n, _, h => by rw [scan_nil] at h; cases h
  | 0, c :: r, u, pos, t, n, hm, h => by simp at hm
  | m + 1, c :: r, u, pos, t, n, hm, h => by
    have hne : (c :: r) ≠ [] := by simp
    have hw := decL_width (c :: r)
    have hle := decL_le (c :: r) hne
    cases hs : strayL (c :: r)
    · cases hu : stepU u (decL (c :: r)).1 with
      | none => rw [unqS_none _ hne hs u pos hu] at h; cases h
      | some u' =>
        by_cases h5 : u'.st = 5
        · rw [unqS_end _ hne hs u u' pos hu h5] at h
          cases h
          exact ⟨Nat.le_refl _, by simp⟩
        · rw [unqS_more _ hne hs u u' pos hu h5] at h
          have ih := unqS_len m _ u' _ t n (by simp only [List.length_drop]; simp only [List.length_cons] at hm ⊢; omega) h
          simp only [List.length_drop] at ih
          omega
    · rw [unqS_stray _ hne hs u pos] at h; cases h
theorem unquoteL_len {l t : Bs} {n : Nat} (h : unquoteL l = some (t, n)) : 1 ≤ n ∧ n ≤ l.length := by
  have := unqS_len l.length l _ 0 t n (Nat.le_refl _) h
  omega

theorem digsL_le (l : Bs) : (digsL l).length ≤ l.length := (List.takeWhile_sublist _).length_le
theorem digsL_pos {l : Bs} (hl : l ≠ []) (h : digC (atL l 0) = true) : 1 ≤ (digsL l).length := by
  cases l with
  | nil => exact absurd rfl hl
  | cons c r =>
    have : digC c.toNat = true := by simpa [atL] using h
    simp [digsL, this]
theorem signsL_pos : ∀ g ∈ signsL, 1 ≤ g.length := by decide

theorem next_len {l : Bs} {sc : Bool} {x : Tk × Nat} (hl : l ≠ []) (h : nextL l sc = .ok x) : 1 ≤ x.2 ∧ x.2 ≤ l.length := by
  unfold nextL at h
  split at h
  · rename_i h1
    cases h
    exact ⟨h1, nameL_le l sc⟩
  · split at h
    · rename_i h2
      unfold numbL at h
      split at h
      · cases h
      · split at h
        · cases h
        · cases h
          exact ⟨digsL_pos hl h2, digsL_le l⟩
    · split at h
      · unfold unqNx at h
        split at h
        · rename_i y hy
          cases h
          exact unquoteL_len (t := y.1) (n := y.2) hy
        · cases h
      · unfold signNx at h
        split at h
        · rename_i g hg
          cases h
          have hm := List.mem_of_find?_eq_some hg
          have hp := List.find?_some hg
          exact ⟨signsL_pos g hm, (List.isPrefixOf_iff_prefix.1 hp).length_le⟩
        · cases h

theorem lexF_more : ∀ (f g a : Nat) (l : Bs) (sc : Bool), l.length < f → l.length < g → lexF f a l sc = lexF g a l sc
  | f + 1, g + 1, a, l, sc, hf, hg => by
    unfold lexF
    split
    · rfl
    · split
      · rfl
      · rename_i hne
        cases hx : nextL (l.drop (pastL l).1) sc with
        | error e => rfl
        | ok x =>
          have hl := next_len hne hx
          have hp := pastL_le l
          simp only [List.length_drop] at hl
          simp only
          rw [lexF_more f g _ _ sc (by simp; omega) (by simp; omega)]
theorem lexL_eq (a : Nat) (l : Bs) (sc : Bool) : lexL a l sc =
    if (pastL l).2 = false then .error (a + (pastL l).1, 40)
    else if l.drop (pastL l).1 = [] then .ok []
    else match nextL (l.drop (pastL l).1) sc with
      | .error e => .error (a + (pastL l).1, e)
      | .ok x => consL (x.1, a + (pastL l).1) (lexL (a + (pastL l).1 + x.2) (l.drop ((pastL l).1 + x.2)) sc) := by
  conv => lhs; unfold lexL lexF
  split
  · rfl
  · split
    · rfl
    · rename_i hne
      cases hx : nextL (l.drop (pastL l).1) sc with
      | error e => rfl
      | ok x =>
        have hl := next_len hne hx
        have hp := pastL_le l
        simp only [List.length_drop] at hl
        simp only
        unfold lexL
        rw [lexF_more l.length ((l.drop ((pastL l).1 + x.2)).length + 1) _ _ sc (by simp; omega) (by omega)]

def preL (d : List (Tk × Nat)) : Lx → Lx
  | .error e => .error e
  | .ok ts => .ok (d ++ ts)
theorem preL_nil (x : Lx) : preL [] x = x := by cases x <;> rfl
theorem preL_cons (d : List (Tk × Nat)) (t : Tk × Nat) (x : Lx) : preL d (consL t x) = preL (d ++ [t]) x := by
  cases x
  · rfl
  · simp [preL, consL]

end Go.Proofs.YtpnljjcdlkjfhaaGreatDoor
set_option linter.unusedVariables false
namespace Go.Proofs.YtpnljjcdlkjfhaaGreatDoor
open Go.RowKit
def tokCells (x : Tk × Int) : List Value := [.int .i64 x.1.1, .string ⟨x.1.2.1.toArray⟩, .int .i64 x.1.2.2, .int .i64 x.2]
def rowT (ts : List (Tk × Int)) : List Value := ts.flatMap tokCells
theorem rowT_length (ts : List (Tk × Int)) : (rowT ts).length = ts.length * 4 := by
  induction ts with
  | nil => rfl
  | cons t ts ih =>
    unfold rowT at *
    rw [List.flatMap_cons, List.length_append, ih, List.length_cons]
    simp [tokCells]
    omega
theorem rowT_snoc (ts : List (Tk × Int)) (x : Tk × Int) : rowT (ts ++ [x]) = rowT ts ++ tokCells x := by simp [rowT]
abbrev ToksAt (w : World) (base : Nat) (v : Value) (ts : List (Tk × Int)) : Prop := w.ownsRow base 215 4 v ts.length (rowT ts)
/-- places as numbers. -/
def ints (ts : List (Tk × Nat)) : List (Tk × Int) := ts.map fun x => (x.1, (x.2 : Int))
theorem ints_length (ts : List (Tk × Nat)) : (ints ts).length = ts.length := by simp [ints]
theorem ints_snoc (ts : List (Tk × Nat)) (x : Tk × Nat) : ints (ts ++ [x]) = ints ts ++ [(x.1, (x.2 : Int))] := by simp [ints]

theorem info_tok : (Tryz.prog.info? 215).map (fun i => (i.zero, i.size, i.bytes)) = some (some (.agg #[.int .i64 0, .string ByteArray.empty, .int .i64 0, .int .i64 0]), 4, 40) := by kernel_rfl
theorem add_plain (b o n : Nat) : (⟨b, o, none⟩ : Addr).add n = ⟨b, o + n, none⟩ := by
  unfold Addr.add
  split
  · rename_i h; subst h; rfl
  · rfl
theorem cells_new (w : World) (cs : Array Value) (t : TypeId) : ∀ j u, cs.toList[j]? = some u → (w.alloc (.cells cs t)).cell? ((⟨w.heap.size, 0, none⟩ : Addr).add j) = some u := by
  intro j u h
  rw [add_plain, cell_of_row _ _ (0 + j) cs t (0, 0) (heap_alloc_new w _)]
  simpa using h
theorem cells_new2 (w : World) (cs : Array Value) (t : TypeId) (n : Nat) (hn : n = w.heap.size) : ∀ j u, cs.toList[j]? = some u → (w.alloc (.cells cs t)).cell? ((⟨n, 0, none⟩ : Addr).add j) = some u := by
  subst hn
  exact cells_new w cs t
theorem toks_app {w : World} {base : Nat} {v : Value} {ts : List (Tk × Int)} {x : Tk × Int} (h : w.ownsRow base 215 4 v (ts.length + 1) (rowT ts ++ tokCells x)) : ToksAt w base v (ts ++ [x]) := by
  have e1 : (ts ++ [x]).length = ts.length + 1 := by simp
  unfold ToksAt
  rw [e1, rowT_snoc]
  exact h

theorem next_err {l : Bs} {sc : Bool} {c : Nat} (h : nextL l sc = .error c) : c = 40 ∨ c = 41 := by
  unfold nextL at h
  split at h
  · cases h
  · split at h
    · unfold numbL at h
      split at h
      · cases h; exact .inl rfl
      · split at h
        · cases h; exact .inr rfl
        · cases h
    · split at h
      · unfold unqNx at h
        split at h
        · cases h
        · cases h; exact .inl rfl
      · unfold signNx at h
        split at h
        · cases h
        · cases h; exact .inl rfl

def lexRes (r : Lx) (base : Nat) (e : Ending) (w' : World) : Prop := match r with
  | .ok ts => ∃ v, e = .returned (.tuple #[v, .int .i64 0, .int .i64 0]) ∧ ToksAt w' base v (ints ts)
  | .error x => e = .returned (.tuple #[.slice none 0 0, .int .i64 (x.1 : Nat), .int .i64 (x.2 : Nat)])

set_option maxHeartbeats 2000000 in
set_option maxRecDepth 100000 in
theorem lex_ref (s : ByteArray) (sc : Bool) (w : World) (hs : s.size ≤ 1099511627776) : Calls Tryz.prog 144 #[.string s, .bool sc] w fun e w' =>
    lexRes (lexL 0 s.data.toList sc) w.heap.size e w' ∧ Below w.heap.size w w' := by
  obtain ⟨i0, hi, hz0, hz1, hz2⟩ := info_parts info_tok
  have hsl : Hid (s.size = s.data.toList.length) := Lib.size_eq s
  go_enter Tryz.func144, Tryz.ntmps144
  go_wp2
  go_loopw [7, 8] (fun v7 v8 W => ∃ (a : Nat) (d : List (Tk × Nat)), v8 = .int .i64 a ∧ a ≤ s.size ∧ d.length ≤ a ∧ ToksAt W w.heap.size v7 (ints d) ∧ Below w.heap.size w W ∧
      Hid (lexL 0 s.data.toList sc = preL d (lexL a (s.data.toList.drop a) sc))) (fun _ v8 _ => s.size - (intOf v8).toNat)
  case atStart => exact ⟨0, [], rfl, Nat.zero_le _, by simp, World.ownsRow_nil _ _ _ _, Below.refl _ _, by simp [Hid, preL_nil]⟩
  case round =>
    obtain ⟨a, d, rfl, ha, hda, ht, hb, hh⟩ := hrel
    have hxl : (s.extract a s.size).data.toList = s.data.toList.drop a := drop_extract s a
    have hpa := fun W => past_any (s.extract a s.size) W (by rw [Lib.size_eq, hxl, List.length_drop, ← Lib.size_eq]; omega)
    rw [hxl] at hpa
    have hsr := drop_run s a ha
    have hpl := pastL_le (s.data.toList.drop a)
    rw [List.length_drop, ← Lib.size_eq] at hpl
    have hle := lexL_eq a (s.data.toList.drop a) sc
    obtain ⟨k, hk⟩ : ∃ k, k = (pastL (s.data.toList.drop a)).1 := ⟨_, rfl⟩
    rw [← hk] at hpa hpl hle
    rw [List.drop_drop] at hle
    clear hxl
    generalize s.extract a s.size = X at *
    cases hok : (pastL (s.data.toList.drop a)).2
    · rw [hok] at hpa hle
      have HR : Hid (lexL 0 s.data.toList sc = .error (a + k, 40)) := by
        show _ = _
        rw [hh.out, hle, if_pos rfl]
        rfl
      clear hle hk hok hh
      go_wp2_with (go_at_call 185; refine (hpa _).mono ?_; rintro e W ⟨rfl, rfl⟩)
      go_ret3
      refine ⟨?_, hb⟩
      rw [HR.out]
      show _ = _
      simp
    · rw [hok] at hpa hle
      rw [if_neg (by simp)] at hle
      clear hok hk
      by_cases hend : a + k = s.size
      · have hd0 : s.data.toList.drop (a + k) = [] := List.drop_eq_nil_of_le (by rw [← hsl.out]; omega)
        have HR : Hid (lexL 0 s.data.toList sc = .ok d) := by
          show _ = _
          rw [hh.out, hle, if_pos hd0]
          simp [preL]
        have he : (a : Int) + (k : Int) = (s.size : Int) := by omega
        clear hle hd0 hh
        go_wp2_with (go_at_call 185; refine (hpa _).mono ?_; rintro e W ⟨rfl, rfl⟩)
        go_ret3
        refine ⟨?_, hb⟩
        rw [HR.out]
        exact ⟨_, rfl, ht⟩
      · have hlt : a + k < s.size := by omega
        have hd0 : s.data.toList.drop (a + k) ≠ [] := drop_ne s (a + k) hlt
        rw [if_neg hd0] at hle
        have he : ((a : Int) + (k : Int) == (s.size : Int)) = false := int_eqb (by omega)
        have hyl : (s.extract (a + k) s.size).data.toList = s.data.toList.drop (a + k) := drop_extract s (a + k)
        have hys : (s.extract (a + k) s.size).size = s.size - (a + k) := by rw [Lib.size_eq, hyl, List.length_drop, ← Lib.size_eq]
        have hnx := fun W => next_any (s.extract (a + k) s.size) sc W (by omega) (by omega)
        rw [hyl] at hnx
        have hsr2 := drop_run s (a + k) (by omega)
        rw [show ((a + k : Nat) : Int) = (a : Int) + (k : Int) from by omega] at hsr2
        have hlen := fun x => next_len (l := s.data.toList.drop (a + k)) (sc := sc) (x := x) hd0
        clear hyl hys hd0
        generalize s.extract (a + k) s.size = Y at *
        cases hnl : nextL (s.data.toList.drop (a + k)) sc with
        | error c =>
          rw [hnl] at hnx hle
          have HR : Hid (lexL 0 s.data.toList sc = .error (a + k, c)) := by
            show _ = _
            rw [hh.out, hle]
            rfl
          have hc0 : ((c : Int) == 0) = false := int_eqb (by rcases next_err hnl with h | h <;> omega)
          clear hle hh hnl hlen
          simp only [nextRes] at hnx
          go_wp2_with (first
            | (go_at_call 185; refine (hpa _).mono ?_; rintro e W ⟨rfl, rfl⟩)
            | (go_at_call 186; refine (hnx _).mono ?_; rintro e W2 ⟨⟨⟨t1, t2, t3⟩, rfl⟩, hb2⟩; simp only [tokV]))
          go_ret3
          refine ⟨?_, (hb.trans (hb2.mono hb.size)).alloc (by have := hb.size; have := hb2.size; omega) _⟩
          rw [HR.out]
          show _ = _
          simp
        | ok x =>
          have hx := hlen x hnl
          rw [List.length_drop, ← hsl.out] at hx
          rw [hnl] at hnx hle
          simp only at hle
          have HR : Hid (lexL 0 s.data.toList sc = preL (d ++ [(x.1, a + k)]) (lexL (a + k + x.2) (s.data.toList.drop (a + k + x.2)) sc)) := by
            show _ = _
            rw [hh.out, hle, preL_cons, List.drop_drop, Nat.add_assoc]
          clear hle hh hnl hlen
          obtain ⟨⟨t1, t2, t3⟩, n⟩ := x
          simp only at hx HR
          simp only [nextRes, tokV] at hnx
          have hil := ints_length d
          go_wp2_with (first
            | (go_at_call 185; refine (hpa _).mono ?_; rintro e W ⟨rfl, rfl⟩)
            | (go_at_call 186; refine (hnx _).mono ?_; rintro e W2 ⟨rfl, hb2⟩)
            | (at_builtin; refine wpList_append_own _ rfl _ _ 207 rfl w.heap.size 215 i0 _ 4 40 Tryz.underlying207 hi hz0 hz1 hz2 rfl (by decide) _ _ _ rfl (((ht.kept (row := none) ⟨hb2.os, hb2.tape, hb2.output, hb2.size, fun k hk _ => hb2.block k hk⟩ (by cases hv : Value.ownBlock _ <;> simp)).alloc _).alloc _) ⟨_, 0, none⟩ 1 1 (tokCells ((t1, t2, t3), (a : Int) + (k : Int))) rfl rfl (cells_new2 _ #[.int .i64 t1, .string ⟨t2.toArray⟩, .int .i64 t3, .int .i64 ((a : Int) + (k : Int))] _ _ (by simp)) (by intro u hu; simp [tokCells] at hu; rcases hu with rfl | rfl | rfl | rfl <;> rfl) (by unfold maxLen; omega) (by omega) (by have h1 := hb.size; have h2 := hb2.size; simp; omega) ?_; intro v1 W3 ho1 hg1 hn1))
          go_roundw
          case rel =>
            have hbw := hb.trans (hb2.mono hb.size)
            refine ⟨a + k + n, d ++ [((t1, t2, t3), a + k)], by simp, by omega, by simp; omega, ?_, ?_, HR⟩
            · rw [ints_snoc]
              have e : (((t1, t2, t3), ((a + k : Nat) : Int)) : Tk × Int) = ((t1, t2, t3), (a : Int) + (k : Int)) := by simp
              rw [e]
              exact toks_app ho1
            · exact ((hbw.alloc hbw.size _).alloc (by have := hbw.size; simp; omega) _).grown hg1 (by have := hbw.size; simp; omega) (fun j hj => (ht.lt j hj).1)
          case measure => simp [intOf]; omega

end Go.Proofs.YtpnljjcdlkjfhaaGreatDoor
