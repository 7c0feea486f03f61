/- Own text. The document's Normal and Join. The document's Normal and Join. -/
import Derived.Test.YtpnljjcdlkjfhaaGreatDoorRv38
set_option linter.unusedVariables false
namespace Go.Proofs.YtpnljjcdlkjfhaaGreatDoor.Pa
open Go.RowKit
def stepR (L : List Bs) (q : Bs) : Option (List Bs) :=
  if q = [] ∨ q = [46] then some L
  else if q = [46, 46] then (if L = [] then none else some L.dropLast)
  else some (L ++ [q])
def walkR : List Bs → List Bs → Option (List Bs)
  | L, [] => some L
  | L, q :: qs => match stepR L q with
    | none => none
    | some L' => walkR L' qs
set_option maxRecDepth 100000 in
theorem stepR_eq {L : List Bs} {q : Bs} (h : q.all signB = true) : stepR L q = step L q := by simp [stepR, step, h]
set_option maxRecDepth 100000 in
theorem walkR_eq : ∀ (qs L : List Bs), (∀ q ∈ qs, q.all signB = true) → walkR L qs = walkL L qs
  | [], L, _ => rfl
  | q :: qs, L, h => by
    simp only [walkR, walkL, stepR_eq (h q (by simp))]
    cases step L q with
    | none => rfl
    | some M => exact walkR_eq qs M (fun x hx => h x (by simp [hx]))
set_option maxRecDepth 100000 in
theorem walkR_some {qs : List Bs} {q : Bs} {i : Nat} {L L' : List Bs} {X : Option (List Bs)} (hw : X = walkR L (qs.drop i)) (hq : qs[i]? = some q) (hs : stepR L q = some L') : X = walkR L' (qs.drop (i + 1)) := by
  obtain ⟨hl, e⟩ := List.getElem?_eq_some_iff.1 hq
  rw [hw, List.drop_eq_getElem_cons hl, e]
  simp [walkR, hs]
set_option maxRecDepth 100000 in
theorem walkR_none {qs : List Bs} {q : Bs} {i : Nat} {L : List Bs} {X : Option (List Bs)} (hw : X = walkR L (qs.drop i)) (hq : qs[i]? = some q) (hs : stepR L q = none) : X = none := by
  obtain ⟨hl, e⟩ := List.getElem?_eq_some_iff.1 hq
  rw [hw, List.drop_eq_getElem_cons hl, e]
  simp [walkR, hs]

set_option maxRecDepth 100000 in
theorem mem_split : ∀ (p : Bs) (c : UInt8), c ≠ 47 → (c ∈ p ↔ ∃ q ∈ splitS p, c ∈ q)
  | [], c, _ => by simp [splitS]
  | d :: r, c, h => by
    have ih := mem_split r c h
    obtain ⟨x, xs, hx⟩ := List.exists_cons_of_ne_nil (splitS_ne r)
    by_cases hd : d = 47
    · subst hd
      simp [splitS, h, ih]
    · simp only [splitS, if_neg hd, hx, List.headD_cons, List.tail_cons, List.mem_cons, ih]
      constructor
      · rintro (e | ⟨q, e | hq, hc⟩)
        · exact ⟨_, .inl rfl, by simp [e]⟩
        · exact ⟨_, .inl rfl, by rw [← e]; simp [hc]⟩
        · exact ⟨q, .inr hq, hc⟩
      · rintro ⟨q, e | hq, hc⟩
        · rw [e] at hc
          rcases List.mem_cons.1 hc with hc | hc
          · exact .inl hc
          · exact .inr ⟨x, .inl rfl, hc⟩
        · exact .inr ⟨q, .inr hq, hc⟩
set_option maxRecDepth 100000 in
theorem slash_split : ∀ (p q : Bs), q ∈ splitS p → 47 ∉ q
  | [], q, h => by simp [splitS] at h; simp [h]
  | d :: r, q, h => by
    obtain ⟨x, xs, hx⟩ := List.exists_cons_of_ne_nil (splitS_ne r)
    have ih := slash_split r
    rw [hx] at ih
    by_cases hd : d = 47
    · simp only [splitS, if_pos hd, hx, List.mem_cons] at h
      rcases h with h | h
      · simp [h]
      · exact ih q (by simpa using h)
    · simp only [splitS, if_neg hd, hx, List.headD_cons, List.tail_cons, List.mem_cons] at h
      rcases h with h | h
      · rw [h]
        intro hm
        rcases List.mem_cons.1 hm with hm | hm
        · exact hd hm.symm
        · exact ih x (by simp) hm
      · exact ih q (by simp [h])

def fitB (c : UInt8) : Bool := c == 47 || signB c
set_option maxRecDepth 100000 in
theorem all_fit {p : Bs} (h : p.all fitB = true) : ∀ q ∈ splitS p, q.all signB = true := fun q hq => List.all_eq_true.2 fun c hc => by
  have h47 : c ≠ 47 := fun e => slash_split p q hq (e ▸ hc)
  have hp := (mem_split p c h47).2 ⟨q, hq, hc⟩
  have := List.all_eq_true.1 h c hp
  unfold fitB at this
  simpa [h47] using this
set_option maxRecDepth 100000 in
theorem some_bad {p : Bs} {c : UInt8} (hc : c ∈ p) (hf : fitB c = false) : ∃ q ∈ splitS p, q.all signB = false := by
  unfold fitB at hf
  simp at hf
  obtain ⟨q, hq, hcq⟩ := (mem_split p c hf.1).1 hc
  exact ⟨q, hq, List.all_eq_false.2 ⟨c, hcq, by simp [hf.2]⟩⟩

set_option maxRecDepth 100000 in
theorem nrm_bad {p : Bs} {c : UInt8} (hc : c ∈ p) (hf : fitB c = false) : nrm p = ([], 30) := by
  cases p with
  | nil => rfl
  | cons d r =>
    show (if d = 47 then fin (walkL [] (splitS r)) else ([], 30)) = _
    split
    · rename_i hd
      have : walkL [] (splitS r) = none := by
        refine walk_bad _ _ (some_bad (c := c) ?_ hf)
        rcases List.mem_cons.1 hc with e | e
        · rw [e, hd] at hf; exact absurd hf (by decide)
        · exact e
      rw [this]
      rfl
    · rfl
set_option maxRecDepth 100000 in
theorem nrm_fit {p : Bs} (h : p.all fitB = true) (h0 : p[0]? = some 47) : nrm p = fin (walkR [] (splitS p)) := by
  rw [walkR_eq _ _ (all_fit h)]
  cases p with
  | nil => simp at h0
  | cons d r =>
    have hd : d = 47 := by simpa using h0
    subst hd
    have : splitS (47 :: r) = [] :: splitS r := by simp [splitS]
    rw [this]
    rfl
set_option maxRecDepth 100000 in
theorem joinS_take {K : List Bs} {i : Nat} {q : Bs} (h : K[i]? = some q) : joinS (K.take (i + 1)) = joinS (K.take i) ++ (47 :: q) := by
  rw [List.take_add_one, h]
  exact joinS_snoc _ _

/-- the bytes of all parts together, each with its slash. -/
theorem walkR_len : ∀ (qs L L' : List Bs), walkR L qs = some L' → (joinS L').length ≤ (joinS L).length + (joinS qs).length
  | [], L, L', h => by cases h; simp
  | q :: qs, L, L', h => by
    unfold walkR at h
    split at h
    · cases h
    · rename_i M hM
      have ih := walkR_len qs M L' h
      have h2 : (joinS M).length ≤ (joinS L).length + (1 + q.length) := by
        unfold stepR at hM
        split at hM
        · cases hM; omega
        · split at hM
          · split at hM
            · cases hM
            · rename_i hL
              cases hM
              obtain ⟨N, x, rfl⟩ := snoc_of hL
              rw [List.dropLast_concat, joinS_snoc]
              simp
              omega
          · cases hM
            rw [joinS_snoc]; simp; omega
      rw [joinS_cons]
      simp
      omega
set_option maxRecDepth 100000 in
theorem join_split : ∀ p : Bs, joinS (splitS p) = 47 :: p
  | [] => rfl
  | d :: r => by
    have ih := join_split r
    obtain ⟨x, xs, hx⟩ := List.exists_cons_of_ne_nil (splitS_ne r)
    by_cases hd : d = 47
    · subst hd
      simp only [splitS, if_true]
      rw [joinS_cons, ih]
      rfl
    · simp only [splitS, if_neg hd]
      rw [hx] at ih ⊢
      rw [joinS_cons] at ih ⊢
      simp only [List.headD_cons, List.tail_cons]
      simp at ih ⊢
      exact ih

set_option maxRecDepth 100000 in
theorem texts_at {w : World} {base g n c : Nat} {l : List Bs} (h : w.ownsRow base 9 1 (.slice (some ⟨g, 0, none⟩) n c) n (cellsT l)) {i : Nat} {q : Bs} (hi : l[i]? = some q) (hn : i < n) : w.cell? ⟨g, i, none⟩ = some (.string ⟨q.toArray⟩) := by
  rw [h.cellAt i (by omega)]
  simp [cellsT, hi]
set_option maxRecDepth 100000 in
theorem texts_pop {w : World} {base g c : Nat} {M : List Bs} {x : Bs} (h : Texts w base (.slice (some ⟨g, 0, none⟩) (M ++ [x]).length c) (M ++ [x])) : Texts w base (.slice (some ⟨g, 0, none⟩) M.length c) M := by
  have h1 := row_cut h (k := M.length) (by simp)
  have h2 : (cellsT (M ++ [x])).take (M.length * 1) = cellsT M := by simp [cellsT]
  rw [h2] at h1
  exact h1

set_option maxRecDepth 100000 in
theorem joinS_take_le (K : List Bs) (i : Nat) : (joinS (K.take i)).length ≤ (joinS K).length := by
  have h : joinS K = joinS (K.take i) ++ joinS (K.drop i) := by
    unfold joinS
    rw [← List.flatMap_append, List.take_append_drop]
  rw [h]
  simp

set_option maxHeartbeats 8000000 in
set_option maxRecDepth 100000 in
theorem refNormal_any (s : ByteArray) (w : World) (hs : s.size ≤ 1099511627776) : Calls Tryz.prog 49 #[.string s] w fun e w' =>
    e = .returned (.tuple #[.string (nrmB s), .int .i64 (nrmE s)]) ∧ Below w.heap.size w w' := by
  obtain ⟨i0, hi, hz0, hz1, hz2⟩ := info_parts info_str
  by_cases hp : s.data.toList[0]? = some 47
  · have hpos : 0 < s.size := by rw [Lib.size_eq]; exact (List.getElem?_eq_some_iff.1 hp).1
    have hs0 : s[0] = 47 := by rw [byte_at s 0 hpos] at hp; exact Option.some.inj hp
    have c1 : s.toList.isEmpty = false := by
      rw [Lib.toList_data]
      cases h : s.data.toList with
      | nil => rw [h] at hp; cases hp
      | cons _ _ => rfl
    have HP : Hid (s.data.toList[0]? = some 47) := hp
    clear hp
    go_enter Tryz.func49, Tryz.ntmps49
    go_wp2
    go_loopw [4] (fun v4 W => ∃ k : Nat, k ≤ s.size ∧ v4 = .int .i64 k ∧ W = w ∧ Hid ((s.data.toList.take k).all fitB = true)) (fun v4 _ => s.size - (intOf v4).toNat)
    case atStart => exact ⟨0, Nat.zero_le _, rfl, rfl, by simp [Hid]⟩
    case round =>
      obtain ⟨k, hk, rfl, rfl, hh⟩ := hrel
      by_cases hkl : k < s.size
      · have hby := byte_at s k hkl
        have hkl2 : (k : Int) < (s.size : Int) := by omega
        have hfit : fitB s[k] = (decide (((s[k].toNat : Nat) : Int) = 47) || signI (s[k].toNat : Int)) := by
          unfold fitB
          rw [signI_eq]
          congr 1
          rw [Bool.eq_iff_iff]
          simp
          constructor
          · intro e; rw [e]; rfl
          · intro e; exact UInt8.toNat_inj.1 (by simpa using (Int.ofNat_inj.1 (by simpa using e) : s[k].toNat = 47))
        have HF : Hid (fitB s[k] = (decide (((s[k].toNat : Nat) : Int) = 47) || signI (s[k].toNat : Int))) := hfit
        clear hfit
        go_wp2_with (go_at_call 67; refine (refSign_any _ _).mono ?_; rintro e W ⟨rfl, rfl⟩)
        · have hx : ((s[k].toNat : Nat) : Int) = 47 := by assumption
          go_roundw
          case rel => exact ⟨k + 1, by omega, by simp, by simp, all_take_succ hby hh.out (by rw [HF.out]; simp [hx])⟩
          case measure => simp [intOf]; omega
        · have hx : ((((s[k].toNat : Nat) : Int) != 47) = true ∧ (!signI (s[k].toNat : Int)) = true) := by assumption
          have hnb : nrm s.data.toList = ([], 30) := nrm_bad (List.mem_of_getElem? hby) (by rw [HF.out]; simpa using hx)
          go_ret2
          exact ⟨ret_si (toList_ext (by rw [nrmB_list, hnb])) (by unfold nrmE; rw [hnb]; rfl), Below.refl _ _⟩
        · have hx : (((s[k].toNat : Nat) : Int) != 47) = false ∨ (!signI (s[k].toNat : Int)) = false := by assumption
          go_roundw
          case rel => exact ⟨k + 1, by omega, by simp, by simp, all_take_succ hby hh.out (by rw [HF.out]; simpa using hx)⟩
          case measure => simp [intOf]; omega
      · have hkl2 : ¬ (k : Int) < (s.size : Int) := by omega
        have HN : Hid (nrm s.data.toList = fin (walkR [] (splitS s.data.toList))) := by
          have h1 := hh.out
          rw [List.take_of_length_le (by rw [← Lib.size_eq]; omega)] at h1
          exact nrm_fit h1 HP.out
        have HL : Hid (∀ K, walkR [] (splitS s.data.toList) = some K → (joinS K).length ≤ s.size + 1) := fun K hK => by
          have h1 := walkR_len _ _ _ hK
          rw [join_split] at h1
          rw [Lib.size_eq]
          simpa [joinS] using h1
        clear hh HP hs0 c1
        go_wp2_with (go_at_call 68; refine (parts_any s _ hs).mono ?_; rintro e W1 ⟨v, rfl, ht, hb1, hpl⟩; obtain ⟨g, c, rfl, hgb, hnc⟩ := row_some ht (List.length_pos_iff.2 (splitS_ne _)))
        generalize splitS s.data.toList = QS at *
        have hglt : g < W1.heap.size := (ht.lt g rfl).2
        go_loopw [5, 7] (fun v5 v7 W => ∃ (i : Nat) (K : List Bs), i ≤ QS.length ∧ v7 = .int .i64 i ∧ K.length ≤ i ∧ Texts W W1.heap.size v5 K ∧ Below W1.heap.size W1 W ∧ Hid (walkR [] QS = walkR K (QS.drop i))) (fun _ v7 _ => QS.length - (intOf v7).toNat)
        case atStart => exact ⟨0, [], by omega, rfl, by simp, World.ownsRow_nil _ _ _ _, Below.refl _ _, by simp [Hid]⟩
        case round =>
          obtain ⟨i, K, hiq, rfl, hKi, hk, hbw, hw⟩ := hrel
          by_cases hil : i < QS.length
          · have hil2 : (i : Int) < (QS.length : Int) := by omega
            obtain ⟨q, hq⟩ : ∃ q, QS[i]? = some q := ⟨_, List.getElem?_eq_getElem hil⟩
            have hce : wr.cell? ⟨g, i, none⟩ = some (.string ⟨q.toArray⟩) := (hbw.cell (p := ⟨g, i, none⟩) hglt).trans (texts_at ht hq hil)
            obtain ⟨Q, hQ⟩ : ∃ Q : ByteArray, Q = ⟨q.toArray⟩ := ⟨_, rfl⟩
            have hQl : Q.data.toList = q := by rw [hQ]
            rw [← hQ] at hce
            have HQ : Hid (QS[i]? = some q ∧ Q.data.toList = q) := ⟨hq, hQl⟩
            clear hQ hq
            by_cases q0 : q = []
            · have d1 : Q.toList.isEmpty = true := by rw [Lib.toList_data, hQl, q0]; rfl
              have HW : Hid (walkR [] QS = walkR K (QS.drop (i + 1))) := walkR_some hw.out HQ.out.1 (by rw [q0]; simp [stepR])
              clear q0 hQl
              go_wp2
              go_roundw
              case rel => exact ⟨i + 1, K, by omega, by simp, by omega, hk, hbw, HW⟩
              case measure => simp [intOf]; omega
            · have d1 : Q.toList.isEmpty = false := by
                rw [Lib.toList_data, hQl]
                cases q with
                | nil => exact absurd rfl q0
                | cons _ _ => rfl
              by_cases q1 : q = [46]
              · have d2 : (Q.toList == [46]) = true := by rw [Lib.toList_data, hQl, q1]; rfl
                have HW : Hid (walkR [] QS = walkR K (QS.drop (i + 1))) := walkR_some hw.out HQ.out.1 (by rw [q1]; simp [stepR])
                clear q0 q1 hQl
                go_wp2
                go_roundw
                case rel => exact ⟨i + 1, K, by omega, by simp, by omega, hk, hbw, HW⟩
                case measure => simp [intOf]; omega
              · have d2 : (Q.toList == [46]) = false := by rw [Lib.toList_data, hQl]; simpa using q1
                by_cases q2 : q = [46, 46]
                · have d3 : (Q.toList == [46, 46]) = true := by rw [Lib.toList_data, hQl, q2]; rfl
                  by_cases hK0 : K = []
                  · have HX : Hid (nrm s.data.toList = ([], 30)) := by
                      show _ = _
                      rw [HN.out, walkR_none hw.out HQ.out.1 (by rw [q2, hK0]; simp [stepR])]
                      rfl
                    obtain ⟨A, c2, rfl⟩ := row_form hk
                    subst hK0
                    clear q0 q1 q2 hQl
                    go_wp2
                    go_ret2
                    exact ⟨ret_si (toList_ext (by rw [nrmB_list, HX.out])) (by unfold nrmE; rw [HX.out]; rfl), hb1.trans (hbw.mono hb1.size)⟩
                  · obtain ⟨M, x, rfl⟩ := snoc_of hK0
                    have HW : Hid (walkR [] QS = walkR M (QS.drop (i + 1))) := walkR_some hw.out HQ.out.1 (by rw [q2]; simp [stepR])
                    obtain ⟨g2, c2, rfl, hgb2, hnc2⟩ := row_some hk (by simp)
                    have hk2 := texts_pop hk
                    have hml : (M ++ [x]).length = M.length + 1 := by simp
                    have HM : Hid (Texts wr W1.heap.size (.slice (some ⟨g2, 0, none⟩) M.length c2) M) := hk2
                    have hnc3 : ((M.length : Nat) : Int) ≤ (c2 : Int) := by omega
                    have hcut : ∀ W, (Instr.slice 70 (.slice (some ⟨g2, 0, none⟩) (M.length + 1) c2) none (some (.int .i64 (M.length : Int))) none).run Tryz.prog W = .ok (.slice (some ⟨g2, 0, none⟩) M.length c2) W := fun W => by
                      go_simp
                    rw [hml]
                    clear q0 q1 q2 hQl hk hk2 hK0 hnc2
                    have hKi2 : M.length ≤ i := by omega
                    clear hKi
                    go_wp2
                    go_roundw
                    case rel => exact ⟨i + 1, M, by omega, by simp, by omega, HM.out, hbw, HW⟩
                    case measure => simp [intOf]; omega
                · have d3 : (Q.toList == [46, 46]) = false := by rw [Lib.toList_data, hQl]; simpa using q2
                  have HW : Hid (walkR [] QS = walkR (K ++ [q]) (QS.drop (i + 1))) := walkR_some hw.out HQ.out.1 (by simp [stepR, q0, q1, q2])
                  clear q0 q1 q2 hQl
                  go_wp2_with (at_builtin; refine wpList_append_own _ rfl _ _ 70 rfl W1.heap.size 9 i0 (.string ByteArray.empty) 1 16 Tryz.underlying70 hi hz0 hz1 hz2 rfl (by decide) _ _ _ rfl (hk.alloc _) ⟨_, 0, none⟩ 1 1 [.string Q] rfl rfl (cell_one_new _ _ _) (fun x hx => by simp at hx; subst hx; rfl) (by unfold maxLen; omega) (by omega) (by have := hbw.size; simp; omega) ?_; intro v1 W3 ho1 hg1 hn1)
                  go_roundw
                  case rel => exact ⟨i + 1, K ++ [q], by omega, by simp, by simp; omega, texts_app ho1 HQ.out.2, (hbw.alloc hbw.size _).grown hg1 (by have := hbw.size; simp; omega) (fun j hj => (hk.lt j hj).1), HW⟩
                  case measure => simp [intOf]; omega
          · have hil2 : ¬ (i : Int) < (QS.length : Int) := by omega
            have HK : Hid (walkR [] QS = some K) := by
              show _ = _
              rw [hw.out, List.drop_eq_nil_of_le (by omega)]
              rfl
            have hjl := HL.out K HK.out
            clear hw HL
            by_cases hK0 : K = []
            · have HX : Hid (nrm s.data.toList = ([], 30)) := by
                show _ = _
                rw [HN.out, HK.out, hK0]
                rfl
              obtain ⟨A, c2, rfl⟩ := row_form hk
              subst hK0
              go_wp2
              go_ret2
              exact ⟨ret_si (toList_ext (by rw [nrmB_list, HX.out])) (by unfold nrmE; rw [HX.out]; rfl), hb1.trans (hbw.mono hb1.size)⟩
            · have hKp : 0 < K.length := List.length_pos_iff.2 hK0
              have HX : Hid (nrm s.data.toList = if 200 < (joinS K).length then ([], 31) else (joinS K, 0)) := by
                show _ = _
                rw [HN.out, HK.out]
                simp [fin, hK0]
              obtain ⟨g2, c2, rfl, hgb2, hnc2⟩ := row_some hk hKp
              clear hK0 HK HN
              go_wp2
              go_loopw [8, 9] (fun v8 v9 W => ∃ (j : Nat) (o : ByteArray), j ≤ K.length ∧ v9 = .int .i64 j ∧ v8 = .string o ∧ W = wr ∧ Hid (o.data.toList = joinS (K.take j))) (fun _ v9 _ => K.length - (intOf v9).toNat)
              case atStart => exact ⟨0, ⟨#[]⟩, by omega, rfl, rfl, rfl, by simp [Hid, joinS]⟩
              case round =>
                obtain ⟨j, o, hjK, rfl, rfl, rfl, ho⟩ := hrel
                have hos : o.size ≤ (joinS K).length := by
                  rw [Lib.size_eq, ho.out]
                  exact joinS_take_le K j
                by_cases hjl2 : j < K.length
                · have hj3 : (j : Int) < (K.length : Int) := by omega
                  obtain ⟨q, hq⟩ : ∃ q, K[j]? = some q := ⟨_, List.getElem?_eq_getElem hjl2⟩
                  have hce := texts_at hk hq hjl2
                  have hj4 := joinS_take_le K (j + 1)
                  have hj5 := joinS_take hq
                  have HJ : Hid (joinS (K.take (j + 1)) = joinS (K.take j) ++ (47 :: q)) := hj5
                  rw [hj5, ← ho.out] at hj4
                  obtain ⟨Q, hQ⟩ : ∃ Q : ByteArray, Q = ⟨q.toArray⟩ := ⟨_, rfl⟩
                  have hQl : Q.data.toList = q := by rw [hQ]
                  rw [← hQ] at hce
                  rw [← hQl] at hj4 HJ
                  simp only [List.length_append, List.length_cons] at hj4
                  rw [← Lib.size_eq, ← Lib.size_eq] at hj4
                  have hq1 : Q.size ≤ 1099511627777 := by omega
                  have hq2 : o.size ≤ 1099511627777 := by omega
                  clear hq hj5 hQ hQl hj4
                  go_wp2
                  go_roundw
                  case rel =>
                    refine ⟨j + 1, _, by omega, by simp, rfl, by simp, ?_⟩
                    show _ = _
                    rw [append_list, append_list, HJ.out, ho.out]
                    rfl
                  case measure => simp [intOf]; omega
                · have hj3 : ¬ (j : Int) < (K.length : Int) := by omega
                  have ho2 : o.data.toList = joinS K := by rw [ho.out, List.take_of_length_le (by omega)]
                  have HO : Hid (o.data.toList = joinS K) := ho2
                  have hoz : o.size = (joinS K).length := by rw [Lib.size_eq, ho2]
                  have hB := hb1.trans (hbw.mono hb1.size)
                  by_cases hbig : 200 < o.size
                  · have h1 : (200 : Int) < (o.size : Int) := by omega
                    have HY : Hid (nrm s.data.toList = ([], 31)) := by
                      show _ = _
                      rw [HX.out, if_pos (by omega)]
                    clear ho2 hoz HX
                    go_wp2
                    go_ret2
                    exact ⟨ret_si (toList_ext (by rw [nrmB_list, HY.out])) (by unfold nrmE; rw [HY.out]; rfl), hB⟩
                  · have h1 : ¬ (200 : Int) < (o.size : Int) := by omega
                    have HY : Hid (nrm s.data.toList = (joinS K, 0)) := by
                      show _ = _
                      rw [HX.out, if_neg (by omega)]
                    clear ho2 hoz HX
                    go_wp2
                    go_ret2
                    exact ⟨ret_si (toList_ext (by rw [nrmB_list, HY.out, HO.out])) (by unfold nrmE; rw [HY.out]; rfl), hB⟩
  · have HX : Hid (nrm s.data.toList = ([], 30)) := by
      show _ = _
      cases hl : s.data.toList with
      | nil => rfl
      | cons c r =>
        by_cases hc : c = 47
        · rw [hl, hc] at hp; exact absurd rfl hp
        · simp [nrm, hc]
    by_cases h0 : s.data.toList = []
    · have c1 : s.toList.isEmpty = true := by rw [Lib.toList_data, h0]; rfl
      clear h0 hp
      go_enter Tryz.func49, Tryz.ntmps49
      go_wp2
      go_ret2
      exact ⟨ret_si (toList_ext (by rw [nrmB_list, HX.out])) (by unfold nrmE; rw [HX.out]; rfl), Below.refl _ _⟩
    · have hpos : 0 < s.size := by rw [Lib.size_eq]; exact List.length_pos_iff.2 h0
      have c1 : s.toList.isEmpty = false := by
        rw [Lib.toList_data]
        cases h : s.data.toList with
        | nil => exact absurd h h0
        | cons _ _ => rfl
      have hne : ¬ ((s[0].toNat : Nat) : Int) = 47 := fun e => hp (by
        rw [byte_at s 0 hpos]
        exact congrArg some (UInt8.toNat_inj.1 (by simpa using (Int.ofNat_inj.1 (by simpa using e) : s[0].toNat = 47))))
      clear h0 hp
      go_enter Tryz.func49, Tryz.ntmps49
      go_wp2
      go_ret2
      exact ⟨ret_si (toList_ext (by rw [nrmB_list, HX.out])) (by unfold nrmE; rw [HX.out]; rfl), Below.refl _ _⟩

set_option maxRecDepth 100000 in
theorem pre_of (r : ByteArray) (a : Bs) : Lib.hasPrefix r.data.toList a = (decide (a.length ≤ r.size) && ((r.extract 0 a.length).toList == a)) := by
  rw [Lib.toList_data, extract_pre, Lib.size_eq, Bool.eq_iff_iff]
  unfold Lib.hasPrefix
  rw [List.isPrefixOf_iff_prefix]
  simp only [Bool.and_eq_true, decide_eq_true_eq, beq_iff_eq]
  constructor
  · rintro ⟨t, ht⟩
    rw [← ht]
    simp
  · rintro ⟨h1, h2⟩
    exact ⟨r.data.toList.drop a.length, by conv => lhs; lhs; rw [← h2]
                                           exact List.take_append_drop _ _⟩

set_option maxHeartbeats 4000000 in
set_option maxRecDepth 100000 in
theorem refJoin_any (f r : ByteArray) (w : World) (hs : f.size + r.size < 1099511627776) : Calls Tryz.prog 75 #[.string f, .string r] w fun e w' =>
    e = .returned (.tuple #[.string (jnB f r), .int .i64 (jnE f r)]) ∧ Below w.heap.size w w' := by
  have hd := dirB_size f
  have hsum : (dirB f ++ ⟨#[47]⟩ ++ r).size ≤ 1099511627776 := by
    have h1 : (⟨#[47]⟩ : ByteArray).size = 1 := rfl
    simp only [ByteArray.size_append, h1]
    omega
  have hq : reqS r.data.toList = ((decide (2 ≤ r.size) && ((r.extract 0 2).toList == [46, 47])) || (decide (3 ≤ r.size) && ((r.extract 0 3).toList == [46, 46, 47]))) := by
    have h1 := pre_of r [46, 47]
    have h2 := pre_of r [46, 46, 47]
    unfold Lib.hasPrefix at h1 h2
    unfold reqS
    rw [h1, h2]
    rfl
  have hrz : (r.size : Int) ≤ 1099511627776 := by omega
  by_cases h2 : 2 ≤ r.size
  · have c2 : (2 : Int) ≤ (r.size : Int) := by omega
    have d2 : decide ((2 : Int) ≤ (r.size : Int)) = true := decide_eq_true c2
    cases e2 : (r.extract 0 2).toList == [46, 47]
    · by_cases h3 : 3 ≤ r.size
      · have c3 : (3 : Int) ≤ (r.size : Int) := by omega
        have d3 : decide ((3 : Int) ≤ (r.size : Int)) = true := decide_eq_true c3
        cases e3 : (r.extract 0 3).toList == [46, 46, 47]
        · have HJ := jn_no f r (by rw [hq, e2, e3]; simp)
          clear hq
          go_enter Tryz.func75, Tryz.ntmps75
          go_wp2
          go_ret2
          first | exact ⟨rfl, Below.refl _ _⟩ | exact ⟨ret_si HJ.1.symm HJ.2.symm, Below.refl _ _⟩
        · have HJ := jn_yes f r (by rw [hq, e2, e3]; simp [h3])
          have HK : Hid (nrmB (dirB f ++ ⟨#[47]⟩ ++ r) = jnB f r ∧ nrmE (dirB f ++ ⟨#[47]⟩ ++ r) = jnE f r) := HJ
          clear hq HJ
          go_enter Tryz.func75, Tryz.ntmps75
          go_wp2_with (first
            | (go_at_call 110; refine (refDir_any _ _ (by omega)).mono ?_; rintro e W1 ⟨rfl, hb1⟩)
            | (go_at_call 49; refine (refNormal_any _ _ hsum).mono ?_; rintro e W2 ⟨rfl, hb2⟩))
          go_ret2
          exact ⟨ret_si HK.out.1 HK.out.2, hb1.trans (hb2.mono hb1.size)⟩
      · have c3 : ¬ (3 : Int) ≤ (r.size : Int) := by omega
        have d3 : decide ((3 : Int) ≤ (r.size : Int)) = false := decide_eq_false c3
        have HJ := jn_no f r (by rw [hq, e2]; simp; omega)
        clear hq
        go_enter Tryz.func75, Tryz.ntmps75
        go_wp2
        go_ret2
        first | exact ⟨rfl, Below.refl _ _⟩ | exact ⟨ret_si HJ.1.symm HJ.2.symm, Below.refl _ _⟩
    · have HJ := jn_yes f r (by rw [hq, e2]; simp [h2])
      have HK : Hid (nrmB (dirB f ++ ⟨#[47]⟩ ++ r) = jnB f r ∧ nrmE (dirB f ++ ⟨#[47]⟩ ++ r) = jnE f r) := HJ
      clear hq HJ
      go_enter Tryz.func75, Tryz.ntmps75
      go_wp2_with (first
        | (go_at_call 110; refine (refDir_any _ _ (by omega)).mono ?_; rintro e W1 ⟨rfl, hb1⟩)
        | (go_at_call 49; refine (refNormal_any _ _ hsum).mono ?_; rintro e W2 ⟨rfl, hb2⟩))
      go_ret2
      exact ⟨ret_si HK.out.1 HK.out.2, hb1.trans (hb2.mono hb1.size)⟩
  · have c2 : ¬ (2 : Int) ≤ (r.size : Int) := by omega
    have d2 : decide ((2 : Int) ≤ (r.size : Int)) = false := decide_eq_false c2
    have c3 : ¬ (3 : Int) ≤ (r.size : Int) := by omega
    have d3 : decide ((3 : Int) ≤ (r.size : Int)) = false := decide_eq_false c3
    have HJ := jn_no f r (by
      rw [hq, decide_eq_false (show ¬ 2 ≤ r.size from h2), decide_eq_false (show ¬ 3 ≤ r.size by omega)]
      rfl)
    clear hq
    go_enter Tryz.func75, Tryz.ntmps75
    go_wp2
    go_ret2
    first | exact ⟨rfl, Below.refl _ _⟩ | exact ⟨ret_si HJ.1.symm HJ.2.symm, Below.refl _ _⟩

end Go.Proofs.YtpnljjcdlkjfhaaGreatDoor.Pa
