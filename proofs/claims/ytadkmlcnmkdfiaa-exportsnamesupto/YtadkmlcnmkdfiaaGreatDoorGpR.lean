/- Own text. A name that a module has by itself is its own: the walk of the statement. The names that a module exports: the document's list and the program's are one. The document's Resolve. The names that a module exports: the document's Names. The names that a module exports: the walk of the statement. The names that a module exports: the card. -/
import Derived.Test.YtadkmlcnmkdfiaaGreatDoorGpH
import Derived.Test.YtadkmlcnmkdfiaaGreatDoorGpI
import Derived.Test.YtadkmlcnmkdfiaaGreatDoorGpQ
import Derived.Test.YtadkmlcnmkdfiaaGreatDoorGpG
import Derived.Test.YtadkmlcnmkdfiaaGreatDoorGpK
namespace Go.Proofs.YtadkmlcnmkdfiaaGreatDoor.Own
open Go.RowKit Xp
set_option linter.unusedVariables false
set_option linter.unusedSimpArgs false

theorem rsv_eq (L : List Es) (m : Int) (n : ByteArray) : rsv L (m, n) = (stepF L (Xp.ask L n) st0 (m, n)).1 := by
  unfold rsv
  rw [ask_eq L n st0 (m, n) (by simp [Nms])]
theorem rsv_out {L : List Es} {m : Int} {n : ByteArray} (h : m < 0 ∨ (L.length : Int) ≤ m) : rsv L (m, n) = fd0 := by
  rw [rsv_eq]
  unfold stepF
  by_cases h0 : 0 ≤ m
  · have : L[m.toNat]? = none := List.getElem?_eq_none (by omega)
    simp only [h0, if_true, this]
  · simp only [h0, if_false]
theorem rsv_in {L : List Es} {m : Nat} {n : ByteArray} (hm : m < L.length) : rsv L ((m : Int), n) = match first L[m] ((m : Int), n) with
    | .val v => v
    | .go left name ty => clo ty (frG (Xp.ask L n) name (st0.set ((m : Int), n) 1) left fd0).1 := by
  rw [rsv_eq]
  unfold stepF
  have e : L[((m : Int)).toNat]? = some L[m] := by rw [show ((m : Nat) : Int).toNat = m from rfl, List.getElem?_eq_getElem hm]
  have h0 : (0 : Int) ≤ (m : Int) := by omega
  simp only [h0, if_true, e]
  have s0 : st0 ((m : Int), n) = 0 := rfl
  simp only [s0]
  cases first L[m] ((m : Int), n) <;> rfl
theorem rsv_own {L : List Es} {m i : Nat} {n : ByteArray} (hm : m < L.length) (hi : i < L[m].own.length) (hn : L[m].own[i].there = n) (hb : ∀ j (h : j < L[m].own.length), j < i → L[m].own[j].there ≠ n) : rsv L ((m : Int), n) = ⟨1, m, L[m].own[i].here, L[m].own[i].ty⟩ := by
  rw [rsv_in hm]
  have : L[m].own.find? (fun x => x.there == n) = some L[m].own[i] := by
    rw [List.find?_eq_some_iff_getElem]
    refine ⟨by rw [hn, ba_eq]; simp, i, hi, rfl, fun j hj => ?_⟩
    have := hb j (by omega) hj
    rw [ba_eq]
    simpa using this
  unfold first
  simp only [this]
theorem rsv_dft {L : List Es} {m : Nat} (hm : m < L.length) (h1 : ∀ j (h : j < L[m].own.length), L[m].own[j].there ≠ dflt) (h2 : L[m].oth.any (fun x => x.here == dflt) = false) : rsv L ((m : Int), dflt) = fd0 := by
  rw [rsv_in hm]
  have e1 : L[m].own.find? (fun x => x.there == dflt) = none := by
    rw [List.find?_eq_none]
    intro x hx
    obtain ⟨j, hj, rfl⟩ := List.getElem_of_mem hx
    have := h1 j hj
    rw [ba_eq]
    simpa using this
  have e2 : L[m].oth.find? (fun x => x.here == dflt) = none := by
    rw [List.find?_eq_none]
    intro x hx
    rw [List.any_eq_false] at h2
    exact h2 x hx
  unfold first
  simp only [e1, e2, if_true]
set_option maxRecDepth 100000 in
set_option maxHeartbeats 16000000 in
theorem out {W : World} {v : Value} {L : List Es} (hv : MsAt W W.heap.size v L) (hs : Small L) (mod : Int) (name : ByteArray) (he : WEnv W) (hm : mod < 0 ∨ (L.length : Int) ≤ mod) :
    Calls Tryz.prog 6 #[v, .int .i64 mod, .string name] W fun e w' => e = .returned (.bool true) ∧ Below W.heap.size W w' := by
  have C1 := resolveX_any hv (by have := hs.n; omega) hs.hE hs.hN mod name (hs.hU name)
  rw [rsv_out hm] at C1
  replace C1 : Calls Tryz.prog 16 #[v, .int .i64 mod, .string name] W fun e w' => e = .returned (.agg #[.int .i64 0, .int .i64 0, .string ⟨#[]⟩, .bool false]) ∧ Below W.heap.size W w' := C1
  have HE : Hid (∀ X, Below W.heap.size W X → Calls Tryz.prog 10 #[] X fun e w' => e = .returned (.bool true) ∧ Below X.heap.size X w') := fun X b => sure_any X (he.bel b)
  have FE : ∀ W, (binOp .eql 41 (.agg #[.int .i64 0, .int .i64 0, .string ⟨#[]⟩, .bool false]) (.agg #[.int .i64 0, .int .i64 0, .string ⟨#[]⟩, .bool false])).run Tryz.prog W = .ok (.bool true) W := fun W => by
    have := fd_eql W ⟨0, 0, ⟨#[]⟩, false⟩ ⟨0, 0, ⟨#[]⟩, false⟩
    exact this.trans (congrArg (fun b => Result.ok (Value.bool b) W) (by decide))
  have NG := fd_guard
  obtain ⟨va, vc, rfl⟩ := hv.op
  have hsn := hs.n
  clear hv hs he
  by_cases h0 : mod < 0
  · clear hm
    go_enter Tryz.func6, Tryz.ntmps6
    go_wp2_with fail
    go_at_call 16
    refine C1.mono ?_
    rintro e w1 ⟨rfl, b1⟩
    have HB1 : Hid _ := b1
    have C3 := HE.out _ b1
    clear b1 C1
    go_wp2_with fail
    go_at_call 10
    refine C3.mono ?_
    rintro e w3 ⟨rfl, b3⟩
    have HB3 : Hid (Below W.heap.size W w3) := bt HB1.out b3
    clear b3 C3
    go_wp2
    go_ret
    exact ⟨rfl, HB3.out⟩
  · have hge : mod ≥ (L.length : Int) := by omega
    clear hm
    go_enter Tryz.func6, Tryz.ntmps6
    go_wp2_with fail
    go_at_call 16
    refine C1.mono ?_
    rintro e w1 ⟨rfl, b1⟩
    have HB1 : Hid _ := b1
    have C3 := HE.out _ b1
    clear b1 C1
    go_wp2_with fail
    go_at_call 10
    refine C3.mono ?_
    rintro e w3 ⟨rfl, b3⟩
    have HB3 : Hid (Below W.heap.size W w3) := bt HB1.out b3
    clear b3 C3
    go_wp2
    go_ret
    exact ⟨rfl, HB3.out⟩
end Go.Proofs.YtadkmlcnmkdfiaaGreatDoor.Own
namespace Go.Proofs.YtadkmlcnmkdfiaaGreatDoor
open Go.RowKit Xp
set_option linter.unusedVariables false
set_option linter.unusedSimpArgs false

theorem cpu_has (d : Array (List UInt8)) : ∀ m, m ≤ d.size → ∀ j, j < m → d[j]! ∈ Lib.compactUpTo d m
  | 0, _, _, h => by omega
  | m + 1, hm, j, hj => by
    have ih := cpu_has d m (by omega)
    rw [Lib.compactUpTo_succ]
    by_cases e : j = m
    · subst e
      by_cases k : Lib.keeps d j = true
      · rw [if_pos k]; simp
      · rw [if_neg k]
        have : ¬ (j = 0 ∨ d[j]! ≠ d[j - 1]!) := by simpa [Lib.keeps] using k
        have h0 : j ≠ 0 := fun h => this (Or.inl h)
        have h1 : d[j]! = d[j - 1]! := Classical.byContradiction fun h => this (Or.inr h)
        rw [h1]
        exact List.mem_append_left _ (ih (j - 1) (by omega))
    · exact List.mem_append_left _ (ih j (by omega))
theorem cpu_ris (d : Array (List UInt8)) (hd : ∀ i j, i < j → j < d.size → d[i]! ≤ d[j]!) : ∀ m, m ≤ d.size → (Lib.compactUpTo d m).Pairwise (· < ·) ∧ ∀ x ∈ Lib.compactUpTo d m, ∃ i, i < m ∧ d[i]! = x
  | 0, _ => by simp [Lib.compactUpTo]
  | m + 1, hm => by
    obtain ⟨ih, im⟩ := cpu_ris d hd m (by omega)
    rw [Lib.compactUpTo_succ]
    by_cases k : Lib.keeps d m = true
    · rw [if_pos k]
      refine ⟨List.pairwise_append.2 ⟨ih, by simp, fun a ha b hb => ?_⟩, fun x hx => ?_⟩
      · obtain rfl := List.mem_singleton.1 hb
        obtain ⟨i, hi, rfl⟩ := im a ha
        have hne : d[m]! ≠ d[m - 1]! := by
          have : m = 0 ∨ d[m]! ≠ d[m - 1]! := by simpa [Lib.keeps] using k
          exact this.resolve_left (by omega)
        have h1 := hd (m - 1) m (by omega) (by omega)
        have h2 : d[i]! ≤ d[m - 1]! := by
          by_cases e : i = m - 1
          · rw [e]; exact List.le_refl _
          · exact hd i (m - 1) (by omega) (by omega)
        refine Classical.byContradiction fun h3 => ?_
        have h4 : d[m]! ≤ d[i]! := List.not_lt.1 h3
        exact hne (List.le_antisymm (List.le_trans h4 h2) h1)
      · rcases List.mem_append.1 hx with hx | hx
        · obtain ⟨i, hi, e⟩ := im x hx
          exact ⟨i, by omega, e⟩
        · obtain rfl := List.mem_singleton.1 hx
          exact ⟨m, by omega, rfl⟩
    · rw [if_neg k, List.append_nil]
      refine ⟨ih, fun x hx => ?_⟩
      obtain ⟨i, hi, e⟩ := im x hx
      exact ⟨i, by omega, e⟩
theorem cpt_has {l : List (List UInt8)} {x : List UInt8} (h : x ∈ l) : x ∈ Lib.compact l := by
  obtain ⟨i, hi, rfl⟩ := List.getElem_of_mem h
  have := cpu_has l.toArray l.length (by simp) i hi
  unfold Lib.compact
  simpa [getElem!_pos, hi] using this
theorem cpt_ris {l : List (List UInt8)} (h : l.Pairwise (· ≤ ·)) : (Lib.compact l).Pairwise (· < ·) := by
  refine (cpu_ris l.toArray (fun i j hij hj => ?_) l.length (by simp)).1
  have hj' : j < l.length := by simpa using hj
  have := List.pairwise_iff_getElem.1 h i j (by omega) hj' hij
  simpa [getElem!_pos, hj', (by omega : i < l.length)] using this
theorem mem_un {l : List (List UInt8)} {x : ByteArray} : x ∈ unB l ↔ x.data.toList ∈ l := by
  unfold unB
  rw [List.mem_map]
  constructor
  · rintro ⟨s, hs, rfl⟩
    simpa using hs
  · intro h
    exact ⟨_, h, by simp⟩
theorem mem_srt {G : List ByteArray} {y : List UInt8} : y ∈ srt G ↔ ∃ x ∈ G, x.data.toList = y := by
  unfold srt bsL
  rw [List.mem_mergeSort, List.mem_map]
theorem srt_ris (G : List ByteArray) : (srt G).Pairwise (· ≤ ·) := by
  have := List.pairwise_mergeSort (le := fun (x y : List UInt8) => decide (x ≤ y)) (fun a b c h1 h2 => by simpa using List.le_trans (by simpa using h1) (by simpa using h2)) (fun a b => by simpa using List.le_total a b) (bsL G)
  exact this.imp fun h => by simpa using h
theorem mem_giv {L : List Es} {S : List Nat} {x : ByteArray} : x ∈ givL L S ↔ ∃ a ∈ S, ∃ e, L[a]? = some e ∧ x ∈ nmsE e := by
  unfold givL
  rw [List.mem_flatMap]
  constructor
  · rintro ⟨a, ha, hx⟩
    cases he : L[a]? with
    | none => rw [he] at hx; simp at hx
    | some e => rw [he] at hx; exact ⟨a, ha, e, he, by simpa using hx⟩
  · rintro ⟨a, ha, e, he, hx⟩
    exact ⟨a, ha, by rw [he]; simpa using hx⟩
theorem mem_cand {L : List Es} {mod : Int} {x : ByteArray} : x ∈ candL L mod ↔ ∃ a ∈ starL L mod, ∃ e, L[a]? = some e ∧ x ∈ nmsE e := by
  unfold candL
  rw [mem_un, ← mem_giv]
  constructor
  · intro h
    obtain ⟨y, hy, e⟩ := mem_srt.1 (cpt_mem h)
    obtain rfl : y = x := ByteArray.ext (Array.toList_inj.1 e)
    exact hy
  · intro h
    exact cpt_has (mem_srt.2 ⟨x, h, rfl⟩)
theorem ris_cand (L : List Es) (mod : Int) : RisB (candL L mod) := by
  unfold candL RisB unB
  rw [List.pairwise_map]
  exact (cpt_ris (srt_ris _)).imp fun h => h
theorem names_eq (L : List Es) (mod : Int) : (allL L mod).filter (fun n => leads (rsv L (mod, n))) = namL L mod := by
  unfold namL
  refine ris_ext ((ris_all L mod).filter _) ((ris_cand L mod).filter _) fun x => ?_
  rw [List.mem_filter, List.mem_filter, mem_all, mem_cand]
  constructor
  · rintro ⟨⟨a, ha, e, he, hx, _⟩, hl⟩
    exact ⟨⟨a, ha, e, he, hx⟩, hl⟩
  · rintro ⟨⟨a, ha, e, he, hx⟩, hl⟩
    refine ⟨?_, hl⟩
    by_cases hd : x = dflt
    · subst hd
      have hb := (mem_star.1 ha).1
      have hlt := hasB_lt hb
      have hm : mod.toNat < L.length := by omega
      have em : ((mod.toNat : Nat) : Int) = mod := by omega
      refine ⟨mod.toNat, mem_star.2 ⟨hb, Rc.refl⟩, L[mod.toNat], List.getElem?_eq_getElem hm, ?_, Or.inr rfl⟩
      refine Classical.byContradiction fun hn => ?_
      have h1 : ∀ j (h : j < L[mod.toNat].own.length), L[mod.toNat].own[j].there ≠ dflt := fun j h e => hn (by unfold nmsE; exact List.mem_append_left _ (List.mem_map.2 ⟨_, List.getElem_mem h, e⟩))
      have h2 : L[mod.toNat].oth.any (fun x => x.here == dflt) = false := by
        rw [List.any_eq_false]
        intro z hz
        rw [ba_eq]
        simp only [decide_eq_true_eq]
        exact fun e => hn (by unfold nmsE; exact List.mem_append_right _ (List.mem_map.2 ⟨z, hz, e⟩))
      have := Own.rsv_dft hm h1 h2
      rw [em] at this
      rw [this] at hl
      simp [leads, fd0] at hl
    · exact ⟨a, ha, e, he, hx, Or.inl hd⟩
end Go.Proofs.YtadkmlcnmkdfiaaGreatDoor
namespace Go.Proofs.YtadkmlcnmkdfiaaGreatDoor
open Go.RowKit Xp
set_option linter.unusedVariables false
set_option linter.unusedSimpArgs false

set_option maxRecDepth 100000 in
set_option maxHeartbeats 16000000 in
theorem rresolve_any {W : World} {v : Value} {L : List Es} (hv : MsAt W W.heap.size v L) (hL : L.length ≤ 1048576) (hE : ∀ e ∈ L, e.own.length ≤ 1048576 ∧ e.oth.length ≤ 1048576 ∧ e.st.length ≤ 1048576) (mod : Int) (name : ByteArray) (hU : (Uni L (Nms L name)).length ≤ 274877906944) :
    Calls Tryz.prog 17 #[v, .int .i64 mod, .string name] W fun e w' => e = .returned (.agg #[.int .i64 (rsv L (mod, name)).k, .int .i64 (rsv L (mod, name)).mod, .string (rsv L (mod, name)).name, .bool (rsv L (mod, name)).ty]) ∧ Below W.heap.size W w' := by
  obtain ⟨va, vc, rfl⟩ := hv.op
  obtain ⟨wB, hwB⟩ : ∃ X, (W.alloc (.cells #[.int .i64 0, .int .i64 0, .string ⟨#[]⟩, .bool false] 41)).alloc (.cells #[.slice va L.length vc, .slice none 0 0] 74) = X := ⟨_, rfl⟩
  have bB : Below W.heap.size W wB := by rw [← hwB]; exact (bel_a _ _).alloc (by simp) _
  have sB : wB.heap.size = W.heap.size + 2 := by rw [← hwB]; simp
  have m0 : wB.heap[W.heap.size]? = some (.cells #[.int .i64 0, .int .i64 0, .string ⟨#[]⟩, .bool false] 41 (0, 0)) := by
    rw [← hwB, Below.heap_alloc _ _ _ (by simp)]; exact heap_alloc_new W _
  have m1 : wB.heap[W.heap.size + 1]? = some (.cells #[.slice va L.length vc, .slice none 0 0] 74 (0, 0)) := by rw [← hwB]; exact hnewX _ (by simp)
  have hok : (RC.mk W (.slice va L.length vc) L name W.heap.size (W.heap.size + 1)).ok := ⟨hv, Nat.le_refl _, hL, hE, hU⟩
  have hst : stA [] = st0 := rfl
  have HR : Hid (Calls Tryz.prog 35 #[.pointer (some ⟨W.heap.size + 1, 0, none⟩), .int .i64 mod, .string name] wB fun e w' => e = .returned (.agg #[.int .i64 (rsv L (mod, name)).k, .int .i64 (rsv L (mod, name)).mod, .string (rsv L (mod, name)).name, .bool (rsv L (mod, name)).ty]) ∧ w'.heap[W.heap.size]? = some (.cells #[.int .i64 0, .int .i64 0, .string ⟨#[]⟩, .bool false] 41 (0, 0)) ∧ Below W.heap.size W w') := by
    have C := ask_ref hok (un (RC.mk W (.slice va L.length vc) L name W.heap.size (W.heap.size + 1)).U (stA [])) wB [] (.slice none 0 0) (mod, name) ⟨bB, ⟨m1, World.ownsRow_nil _ _ _ _, by simp [Value.ownBlock], by show W.heap.size ≤ W.heap.size + 1; omega⟩, by simp, by simp, by show W.heap.size ≤ wB.heap.size; omega⟩ (Nat.le_refl _) (by simp [Nms])
    refine C.mono ?_
    rintro e w' ⟨rfl, B, va', _, _, _, hf, _⟩
    refine ⟨rfl, (hf.block _ (by omega) (by show W.heap.size ≠ W.heap.size + 1; omega) (by simp [Value.ownBlock])).trans m0, ?_⟩
    exact bB.trans ⟨hf.os, hf.tape, hf.output, by have := hf.size; omega, fun k hk => hf.block k (by omega) (by show k ≠ W.heap.size + 1; omega) (by simp [Value.ownBlock])⟩
  generalize rsv L (mod, name) = r at *
  clear hv hL hE hU hok m0 m1 bB sB hst
  go_enter Tryz.func17, Tryz.ntmps17
  go_wp2_with fail
  go_at_call 35
  refine HR.out.mono ?_
  rintro ex W2 ⟨rfl, k1, b2⟩
  obtain ⟨⟨_, _, _, _⟩, _, _, _, _⟩ := t4 k1
  have HF : Hid (∀ p q x y, Below W.heap.size W ((((W2.setCell ⟨W.heap.size, 0, none⟩ p).setCell ⟨W.heap.size, 1, none⟩ q).setCell ⟨W.heap.size, 2, none⟩ x).setCell ⟨W.heap.size, 3, none⟩ y)) := fun p q x y => (((b2.setCell (by simp) _).setCell (by simp) _).setCell (by simp) _).setCell (by simp) _
  go_wp2
  refine bodyPost_ret (res_f4 Tryz.results17 (t4_set _ _ _ _ k1) rfl) rfl ?_
  exact ⟨rfl, HF.out _ _ _ _⟩
end Go.Proofs.YtadkmlcnmkdfiaaGreatDoor
namespace Go.Proofs.YtadkmlcnmkdfiaaGreatDoor
open Go.RowKit Xp
set_option linter.unusedVariables false
set_option linter.unusedSimpArgs false

set_option maxRecDepth 100000 in
set_option maxHeartbeats 16000000 in
theorem rNames_any {W : World} {v : Value} {L : List Es} (hv : MsAt W W.heap.size v L) (hL : L.length ≤ 1048576) (hE : ∀ e ∈ L, e.own.length ≤ 1048576 ∧ e.oth.length ≤ 1048576 ∧ e.st.length ≤ 1048576) (hO : ∀ o, OkO L o → o.length ≤ 2199023255552) (hU : ∀ n, (Uni L (Nms L n)).length ≤ 274877906944) (mod : Int) :
    Calls Tryz.prog 19 #[v, .int .i64 mod] W fun e w' => ∃ vr, e = .returned vr ∧ TS w' W.heap.size vr (namL L mod) ∧ Below W.heap.size W w' := by
  have C1 := rnames_any hL hE hO L.length W mod true [] [] (.slice none 0 0) (.slice none 0 0) hv (Nat.le_refl _) (World.ownsRow_nil _ _ _ _) (TS.nil _ _) ⟨by simp, by simp⟩ (OkO.nil L) (by simp)
  have HOK : Hid (OkO L (allL L mod)) := (OkO.nil L).nm (m := mod) (fi := true) (f := L.length) (s := []) ⟨by simp, by simp⟩ (by simp)
  have hAl := hO _ HOK.out
  have HNL : Hid ((allL L mod).filter (fun n => leads (rsv L (mod, n))) = namL L mod) := names_eq L mod
  have HAL : Hid ((nmF L L.length mod true [] []).2 = allL L mod) := rfl
  have HRS : Hid (∀ (X : World) (n : ByteArray), Below W.heap.size W X → Calls Tryz.prog 17 #[v, .int .i64 mod, .string n] X fun e w' => e = .returned (.agg #[.int .i64 (rsv L (mod, n)).k, .int .i64 (rsv L (mod, n)).mod, .string (rsv L (mod, n)).name, .bool (rsv L (mod, n)).ty]) ∧ Below X.heap.size X w') := fun X n b => rresolve_any (hv.to b) hL hE mod n (hU n)
  generalize nmF L L.length mod true [] [] = pp at *
  obtain ⟨sP, oP⟩ := pp
  obtain ⟨va, vc, rfl⟩ := hv.op
  have HAL' : Hid (oP = allL L mod) := HAL.out
  clear hv hU hE hO HAL
  go_enter Tryz.func19, Tryz.ntmps19
  go_wp2_with fail
  go_at_call 41
  refine C1.mono ?_
  rintro ex W1 ⟨vs', vo', rfl, tsX, toX, mvX⟩
  have b1 : Below W.heap.size W W1 := mvX.below (Nat.le_refl _) (fun j hj => by cases hj)
  have toX' : TS W1 W.heap.size vo' (allL L mod) := by rw [← HAL'.out]; exact toX
  have HT1 : Hid _ := toX'
  have HB1 : Hid _ := b1
  have s1 := b1.size
  obtain ⟨oa, oc, rfl⟩ := TS.form toX'
  generalize allL L mod = A at *
  clear tsX toX toX' mvX b1 C1
  go_wp2
  go_loopw [7, 8] (fun v7 v8 wr => ∃ (k : Nat) (N : List ByteArray), v8 = .int .i64 (k : Nat) ∧ k ≤ A.length ∧ TS wr W1.heap.size v7 N ∧ Below W1.heap.size W1 wr ∧ N.length ≤ 2199023255552 ∧ Hid ((A.take k).filter (fun n => leads (rsv L (mod, n))) = N)) (fun _ v8 _ => A.length - (intOf v8).toNat)
  case atStart => exact ⟨0, [], rfl, by omega, TS.nil _ _, Below.refl _ _, by simp, rfl⟩
  case round =>
    obtain ⟨k, N, rfl, hk, hT, hB, hNl, HL⟩ := hrel
    have hsz := hB.size
    obtain ⟨na, nc, rfl⟩ := TS.form hT
    by_cases hkl : k < A.length
    · obtain ⟨g, c', e', ck⟩ := TS.atN (row_bel' HT1.out hB) hkl
      simp only [Value.slice.injEq] at e'
      obtain ⟨rfl, _, rfl⟩ := e'
      have hklI : ((k : Nat) : Int) < ((A.length : Nat) : Int) := by omega
      have CR := HRS.out wr A[k] (HB1.out.trans (hB.mono s1))
      have HF : Hid ((A.take (k + 1)).filter (fun n => leads (rsv L (mod, n))) = N ++ (if leads (rsv L (mod, A[k])) then [A[k]] else [])) := by
        show _ = _
        rw [List.take_succ_eq_append_getElem hkl, List.filter_append, HL.out]
        congr 1
        simp [List.filter_cons]
      have HNL2 : Hid (((A.take (k + 1)).filter (fun n => leads (rsv L (mod, n)))).length ≤ 2199023255552) := by
        have h1 := List.length_filter_le (fun n => leads (rsv L (mod, n))) (A.take (k + 1))
        have h2 : (A.take (k + 1)).length ≤ A.length := by simp; omega
        show _ ≤ _
        omega
      have hgl : g < wr.heap.size := (World.ownsRow.lt (row_bel' HT1.out hB) g rfl).2
      generalize A[k] = z at *
      generalize rsv L (mod, z) = r at *
      obtain ⟨rk, rm, rn, rt⟩ := r
      simp only at CR HF
      have HT : Hid _ := hT
      have HB : Hid _ := hB
      clear hT hB HL
      go_wp2_with fail
      go_at_call 17
      refine CR.mono ?_
      rintro ex W2 ⟨rfl, b2⟩
      have s2 := b2.size
      obtain ⟨Z, hZ⟩ : ∃ Z, W2.alloc (.cells #[.int .i64 rk, .int .i64 rm, .string rn, .bool rt] 41) = Z := ⟨_, rfl⟩
      have bZ : Below wr.heap.size wr Z := by rw [← hZ]; exact b2.alloc s2 _
      have mZ : Z.heap[W2.heap.size]? = some (.cells #[.int .i64 rk, .int .i64 rm, .string rn, .bool rt] 41 (0, 0)) := by rw [← hZ]; exact hnewX _ rfl
      obtain ⟨⟨y0, y1, y2, y3⟩, _⟩ := t4 mZ
      have ckZ := (World.cell?_of_block (a := ⟨g, k, none⟩) (bZ.block g hgl)).trans ck
      have TZ : Hid (TS Z W1.heap.size (.slice na N.length nc) N) := row_bel' HT.out bZ
      have BZ : Hid (Below W1.heap.size W1 Z) := HB.out.trans (bZ.mono hsz)
      have hzz := bZ.size
      have BA : Hid (Below W1.heap.size W1 (Z.alloc (.cells #[.string z] 9))) := BZ.out.alloc (by omega) _
      have TA2 : Hid (TS (Z.alloc (.cells #[.string z] 9)) W1.heap.size (.slice na N.length nc) N) := World.ownsRow.alloc TZ.out _
      have HLO : Hid (∀ j, (Value.slice na N.length nc).ownBlock = some j → W1.heap.size ≤ j) := fun j hj => (World.ownsRow.lt HT.out j hj).1
      clear b2 bZ mZ y1 y2 y3 ck CR
      by_cases h1 : rk = 1
      · have HFe : Hid ((A.take (k + 1)).filter (fun n => leads (rsv L (mod, n))) = N ++ [z]) := by show _ = _; rw [HF.out]; simp [leads, h1]
        subst h1
        go_wp2_with (at_builtin; refine wpList_appT _ (by rfl) _ _ (by rfl) W1.heap.size _ N (by rfl) TA2.out _ [z] (by rfl) (src_new Z z) (by simp; omega) (by simp; omega) ?_; intro o1 W3 ho1 hgr1)
        have hB3 := grow_below hgr1 BA.out HLO.out
        go_roundw
        case rel => exact ⟨k + 1, N ++ [z], by simp, by omega, ho1, hB3, by rw [← HFe.out]; exact HNL2.out, HFe.out⟩
        case measure => simp [intOf]; omega
      · have hb1 : (rk == 1) = false := int_neq h1
        by_cases h2 : rk = 2
        · have HFe : Hid ((A.take (k + 1)).filter (fun n => leads (rsv L (mod, n))) = N ++ [z]) := by show _ = _; rw [HF.out]; simp [leads, h2]
          subst h2
          clear h1
          go_wp2_with (at_builtin; refine wpList_appT _ (by rfl) _ _ (by rfl) W1.heap.size _ N (by rfl) TA2.out _ [z] (by rfl) (src_new Z z) (by simp; omega) (by simp; omega) ?_; intro o1 W3 ho1 hgr1)
          have hB3 := grow_below hgr1 BA.out HLO.out
          go_roundw
          case rel => exact ⟨k + 1, N ++ [z], by simp, by omega, ho1, hB3, by rw [← HFe.out]; exact HNL2.out, HFe.out⟩
          case measure => simp [intOf]; omega
        · have hb2 : (rk == 2) = false := int_neq h2
          have HFe : Hid ((A.take (k + 1)).filter (fun n => leads (rsv L (mod, n))) = N) := by show _ = _; rw [HF.out]; simp [leads, h1, h2]
          clear h1 h2
          go_wp2
          go_roundw
          case rel => exact ⟨k + 1, N, by simp, by omega, TZ.out, BZ.out, hNl, HFe.out⟩
          case measure => simp [intOf]; omega
    · obtain rfl : k = A.length := by omega
      have hge : ¬ ((A.length : Nat) : Int) < ((A.length : Nat) : Int) := by omega
      have HF : Hid (namL L mod = N) := by show _ = _; rw [← HNL.out, ← HL.out, List.take_length]
      have HT : Hid (TS wr W.heap.size _ N) := row_baseI hT s1
      have HB : Hid (Below W.heap.size W wr) := HB1.out.trans (hB.mono s1)
      clear hT hB HL hk hkl
      go_wp2
      go_ret
      exact ⟨_, rfl, by rw [HF.out]; exact HT.out, HB.out⟩
end Go.Proofs.YtadkmlcnmkdfiaaGreatDoor
namespace Go.Proofs.YtadkmlcnmkdfiaaGreatDoor.Nam
open Go.RowKit Xp
set_option linter.unusedVariables false
set_option linter.unusedSimpArgs false

theorem nd_sub {α : Type} [DecidableEq α] : ∀ {l U : List α}, l.Nodup → (∀ x ∈ l, x ∈ U) → l.length ≤ U.length
  | [], U, _, _ => Nat.zero_le _
  | a :: l, U, hn, hs => by
    obtain ⟨h1, h2⟩ := List.nodup_cons.1 hn
    have hm : a ∈ U := hs a (by simp)
    have h3 := nd_sub (l := l) (U := U.filter fun x => decide (x ≠ a)) h2 (fun x hx => List.mem_filter.2 ⟨hs x (by simp [hx]), by simpa using fun e => h1 (by rw [← e]; exact hx)⟩)
    have h4 : (U.filter fun x => decide (x ≠ a)).length < U.length := List.length_filter_lt_length_iff_exists.2 ⟨a, hm, by simp⟩
    simp
    omega
theorem ok_len {L : List Es} (hL : L.length ≤ 1048576) (hE : ∀ e ∈ L, e.own.length ≤ 1048576 ∧ e.oth.length ≤ 1048576) (o : List ByteArray) (h : OkO L o) : o.length ≤ 2199023255552 := by
  have nd : o.Nodup := h.r.imp fun {a b} hab e => by rw [e] at hab; exact ltB_irrefl _ hab
  have h1 := nd_sub (U := givL L (List.range L.length)) nd fun x hx => by
    obtain ⟨e, he, hx⟩ := h.m x hx
    obtain ⟨i, hi, rfl⟩ := List.getElem_of_mem he
    exact mem_giv.2 ⟨i, List.mem_range.2 hi, _, List.getElem?_eq_getElem hi, hx⟩
  have h2 := giv_len hE (List.range L.length)
  rw [List.length_range] at h2
  omega
theorem grown_tr {a b c : World} {r : Option Nat} (h : a.grownBy b r) (k : b.grownBy c r) : a.grownBy c r :=
  ⟨k.os.trans h.os, k.tape.trans h.tape, k.output.trans h.output, Nat.le_trans h.size k.size, fun j hj hn => (k.block j (by have := h.size; omega) hn).trans (h.block j hj hn)⟩
set_option maxRecDepth 100000 in
set_option maxHeartbeats 16000000 in
theorem walk0 {W : World} {v : Value} {L : List Es} (hv : MsAt W W.heap.size v L) (hL : L.length ≤ 1048576) (hE : ∀ e ∈ L, e.own.length ≤ 1048576 ∧ e.oth.length ≤ 1048576 ∧ e.st.length ≤ 1048576) (hN : ∀ e ∈ L, ∀ x ∈ nmsE e, x.size ≤ 1048576) (hU : ∀ n, (Uni L (Nms L n)).length ≤ 274877906944) (mod : Int) (he : WEnv W) :
    Calls Tryz.prog 5 #[v, .int .i64 mod] W fun e w' => e = .returned (.bool true) ∧ Below W.heap.size W w' := by
  have hO := ok_len hL (fun e h => ⟨(hE e h).1, (hE e h).2.1⟩)
  have hNl : (namL L mod).length ≤ 2199023255552 := by
    rw [← names_eq L mod]
    have h1 := List.length_filter_le (fun n => leads (rsv L (mod, n))) (allL L mod)
    have h2 := hO (allL L mod) ((OkO.nil L).nm (m := mod) (fi := true) (f := L.length) (s := []) ⟨by simp, by simp⟩ (by simp))
    omega
  have HP : Hid (∀ X, Below W.heap.size W X → Calls Tryz.prog 18 #[v, .int .i64 mod] X fun e w' => ∃ vr, e = .returned vr ∧ TS w' X.heap.size vr (namL L mod) ∧ Below X.heap.size X w') := fun X b => namesX_any (hv.to b) hL hE hN hU mod
  have HQ : Hid (∀ X, Below W.heap.size W X → Calls Tryz.prog 19 #[v, .int .i64 mod] X fun e w' => ∃ vr, e = .returned vr ∧ TS w' X.heap.size vr (namL L mod) ∧ Below X.heap.size X w') := fun X b => rNames_any (hv.to b) hL hE hO hU mod
  have HE : Hid (∀ X, Below W.heap.size W X → Calls Tryz.prog 10 #[] X fun e w' => e = .returned (.bool true) ∧ Below X.heap.size X w') := fun X b => sure_any X (he.bel b)
  obtain ⟨va, vc, rfl⟩ := hv.op
  generalize namL L mod = N at *
  have HX : Hid (∀ (X : World) (p q : Value), TA X X.heap.size p N → TA X X.heap.size q N → Calls Tryz.prog 20 #[p, q] X fun e w' => e = .returned (.bool true) ∧ Below X.heap.size X w') := fun X p q hp hq => by
    have := texts_any hp hq (by omega) (by omega)
    rwa [decide_eq_true rfl] at this
  clear hv hE hN hU he hO
  have C1 := HP.out W (Below.refl _ _)
  go_enter Tryz.func5, Tryz.ntmps5
  go_wp2_with fail
  go_at_call 18
  refine C1.mono ?_
  rintro ex W1 ⟨u1, rfl, hT1, b1⟩
  have C2 := HQ.out W1 b1
  have s1 := b1.size
  have HT1 : Hid (TS W1 W.heap.size u1 N) := hT1
  have HB1 : Hid (Below W.heap.size W W1) := b1
  clear hT1 b1 C1
  go_wp2_with fail
  go_at_call 19
  refine C2.mono ?_
  rintro ex W2 ⟨u2, rfl, hT2, b2⟩
  have s2 := b2.size
  have HT2 : Hid (TS W2 W1.heap.size u2 N) := hT2
  have HT12 : Hid (TS W2 W.heap.size u1 N) := row_bel' HT1.out b2
  have HB2 : Hid (Below W.heap.size W W2) := HB1.out.trans (b2.mono s1)
  have C3 := HX.out W2 u1 u2 (TA.of HT12.out) (TA.of hT2)
  have HLT : Hid (∀ j, u1.ownBlock = some j → W.heap.size ≤ j ∧ j < W1.heap.size) := fun j hj => World.ownsRow.lt HT1.out j hj
  clear hT2 b2 C2
  go_wp2_with fail
  go_at_call 20
  refine C3.mono ?_
  rintro ex W3 ⟨rfl, b3⟩
  have s3 := b3.size
  have HT3 : Hid (TS W3 W.heap.size u1 N) := row_bel' HT12.out b3
  have HT23 : Hid (TS W3 W1.heap.size u2 N) := row_bel' HT2.out b3
  have HB3 : Hid (Below W.heap.size W W3) := HB2.out.trans (b3.mono (by omega))
  clear b3 C3 HT12 HT1 HT2
  obtain ⟨a1, c1, rfl⟩ := TS.form HT3.out
  go_wp2
  go_loopw [8] (fun v8 wr => ∃ (k : Nat) (M : List ByteArray), v8 = .int .i64 (k : Nat) ∧ k ≤ N.length ∧ Hid (M.length = N.length) ∧ wr.ownsRow W.heap.size 9 1 (.slice a1 N.length c1) N.length (M.map .string) ∧ W3.grownBy wr (Value.slice a1 N.length c1).ownBlock) (fun v8 _ => N.length - (intOf v8).toNat)
  case atStart => exact ⟨0, N, rfl, by omega, rfl, HT3.out, ⟨rfl, rfl, rfl, Nat.le_refl _, fun _ _ _ => rfl⟩⟩
  case round =>
    obtain ⟨k, M, rfl, hk, HM, hR, hG⟩ := hrel
    by_cases hkl : k < N.length
    · have hklI : ((k : Nat) : Int) < ((N.length : Nat) : Int) := by omega
      obtain ⟨g, c, e', _, _⟩ := row_someI hR (by omega)
      simp only [Value.slice.injEq] at e'
      obtain ⟨rfl, _, rfl⟩ := e'
      have hkm : k < M.length := by have := HM.out; omega
      have ci := World.ownsRow.cellAt hR k (by omega)
      rw [List.getElem?_map, List.getElem?_eq_getElem hkm] at ci
      simp only [Option.map_some] at ci
      have fz := World.ownsRow.frozenAt hR k
      obtain ⟨hR2, hG2⟩ := World.ownsRow.stored hR k (.string ⟨#[115, 112, 111, 105, 108, 116]⟩)
      have HR2 : Hid (∃ M' : List ByteArray, M'.length = N.length ∧ (wr.setCell ⟨g, k, none⟩ (.string ⟨#[115, 112, 111, 105, 108, 116]⟩)).ownsRow W.heap.size 9 1 (.slice (some ⟨g, 0, none⟩) N.length c1) N.length (M'.map .string)) := ⟨M.set k ⟨#[115, 112, 111, 105, 108, 116]⟩, by rw [List.length_set]; exact HM.out, by rw [List.map_set]; exact hR2⟩
      have HG2 : Hid (W3.grownBy (wr.setCell ⟨g, k, none⟩ (.string ⟨#[115, 112, 111, 105, 108, 116]⟩)) (some g)) := grown_tr hG hG2
      clear hR hG hR2 hG2
      go_wp2
      go_roundw
      case rel =>
        obtain ⟨M', h1, h2⟩ := HR2.out
        exact ⟨k + 1, M', by simp, by omega, h1, h2, HG2.out⟩
      case measure => simp [intOf]; omega
    · have hge : ¬ ((k : Nat) : Int) < ((N.length : Nat) : Int) := by omega
      have hs := hG.size
      have HB4 : Hid (Below W.heap.size W wr) := HB3.out.trans ⟨hG.os, hG.tape, hG.output, hG.size, fun j hj => hG.block j (by omega) (fun e => by have := (HLT.out j e.symm).1; omega)⟩
      have HT4 : Hid (TS wr W1.heap.size u2 N) := row_keepI HT23.out fun j hj => hG.block j (World.ownsRow.lt HT23.out j hj).2 (fun e => by have := (HLT.out j e.symm).2; have := (World.ownsRow.lt HT23.out j hj).1; omega)
      have C4 := HP.out wr HB4.out
      clear hR hG hkl hk
      go_wp2_with fail
      go_at_call 18
      refine C4.mono ?_
      rintro ex W5 ⟨u5, rfl, hT5, b5⟩
      have C5 := HX.out W5 u5 u2 (TA.of hT5) (TA.of (row_bel' HT4.out b5))
      have HB5 : Hid (Below W.heap.size W W5) := bt HB4.out b5
      clear C4 hT5 b5
      go_wp2_with fail
      go_at_call 20
      refine C5.mono ?_
      rintro ex W6 ⟨rfl, b6⟩
      have HB6 : Hid (Below W.heap.size W W6) := bt HB5.out b6
      have C6 := HE.out _ HB6.out
      clear C5 b6
      go_wp2_with fail
      go_at_call 10
      refine C6.mono ?_
      rintro ex W7 ⟨rfl, b7⟩
      have HB7 : Hid (Below W.heap.size W W7) := bt HB6.out b7
      clear C6 b7
      go_wp2
      go_ret
      exact ⟨rfl, HB7.out⟩
theorem walk (v : Value) (L : List Es) (mod : Int) (w : World) (hv : MsAt w w.heap.size v L) (_ : ∀ e ∈ L, goodM e) (hs : Small L) (_ : -9223372036854775808 ≤ mod) (_ : mod ≤ 9223372036854775807) (he : WEnv w) :
    Calls Tryz.prog 5 #[v, .int .i64 mod] w fun e w' => e = .returned (.bool true) ∧ Below w.heap.size w w' :=
  walk0 hv (by have := hs.n; omega) hs.hE (fun e h x hx => by
    unfold nmsE at hx
    rcases List.mem_append.1 hx with hx | hx
    · obtain ⟨z, hz, rfl⟩ := List.mem_map.1 hx
      exact (hs.s e h z (.inl hz)).2
    · obtain ⟨z, hz, rfl⟩ := List.mem_map.1 hx
      exact (hs.s e h z (.inr (.inl hz))).1) hs.hU mod he
end Go.Proofs.YtadkmlcnmkdfiaaGreatDoor.Nam
namespace Go.Proofs.YtadkmlcnmkdfiaaGreatDoor.Nam
open Go.ChangeShapes Go.WideShapes Go.ChangeAt Go.RowKit
open Go.ChangeMaps (open_string)
set_option linter.unusedVariables false

set_option maxRecDepth 100000 in
theorem contract (H : Type) (enc : TypeId × Value → H) (W : World) (base : Nat) (args : Array Value) (ds gs : List (DataW H)) (before : List MemPlace)
    (hval : ∀ (j : Nat) t v, Tryz.f5.params[j]? = some t → args[j]? = some v → Value.okWide Tryz.prog W .any base t v)
    (hW : DataW.Whole enc Tryz.prog Tryz.f5.params.toList Rows.exportsNamesSpec.vars false W args.toList ds gs before)
    (hk : Rows.uptoSmall H (ds ++ gs) = true)
    (hL : laidMetH Tryz.prog laidTabs W) (hsh : W.ShapedOpen Tryz.prog) :
    Calls Tryz.prog 5 args W fun e W' => ∃ v, e = .returned v ∧ Rows.exportsNamesSpec.post enc Tryz.prog Tryz.f5 false true false false W args v W' := by
  have hW' := hW
  obtain ⟨p, q, hA0, hV, rfl, hfz, hnd⟩ := hW
  have hA : DataW.TrodAll enc Tryz.prog W 0 (fun _ => true) true Tryz.f5.params.toList args.toList ds p := hA0
  have hAll := hA
  rw [Tryz.params5] at hA hval
  obtain ⟨v0, vs0, d0, ds0, p0, q0, hargs, rfl, rfl, h0, r0⟩ := trodAll_cons hA
  obtain ⟨v1, vs1, d1, ds1, p1, q1, rfl, rfl, rfl, h1, r1⟩ := trodAll_cons r0
  obtain ⟨rfl, rfl, rfl⟩ := trodAll_nil r1
  obtain rfl : args = #[v0, v1] := by cases args; simp_all
  obtain ⟨rfl, rfl⟩ := trodVars_none hV
  have hlt := hW'.lt
  obtain ⟨S0, f0, g0, z0⟩ := open_ms (hval 0 39 v0 rfl rfl) h0
  obtain ⟨a1, rfl, rfl, rfl, w1⟩ := open_int Tryz.underlying3 (hval 1 3 v1 rfl rfl) h1
  have b1 := bounds_i64 w1
  have hk2 : Rows.uptoBulkAll _ ≤ 1048576 := of_decide_eq_true hk
  simp only [List.append_nil, Rows.uptoBulkAll] at hk2
  have s0 := small_of (L := S0) (by omega)
  refine (walk v0 S0 a1 W f0 g0 s0 b1.1 b1.2 (env_of hL hsh)).mono fun e W' ⟨he, bel⟩ => ?_
  subst he
  exact ⟨_, rfl, _, _, _, [], _, [], hW', trodAll_mk1 (shut_bool Tryz.underlying4 _), below_trodAll laidOut bel _ (by kernel_rfl) hAll (fun x hx => hlt x (by first | (simp at hx; done) | simpa using hx)), rfl, bel.frame _, fun h => by cases h⟩

theorem laid_met (os : Os) : laidMet Tryz.prog laidTabs (({ World.holding Tryz.prog os ⟨#[], #[], []⟩ with heap := layTabs (World.holding Tryz.prog os ⟨#[], #[], []⟩).heap } : World).forCall (fun _ _ => 0) ⟨#[], #[.slice none 0 0, .int .i64 0], []⟩).memory :=
  laidMet_of_run' 80 (by kernel_rfl) (by kernel_rfl)
theorem reads (os : Os) {H : Type} (enc : TypeId × Value → H) : ∃ places, DataW.whole enc Tryz.prog (({ World.holding Tryz.prog os ⟨#[], #[], []⟩ with heap := layTabs (World.holding Tryz.prog os ⟨#[], #[], []⟩).heap } : World).forCall (fun _ _ => 0) ⟨#[], #[.slice none 0 0, .int .i64 0], []⟩).memory Tryz.f5.params.toList Rows.exportsNamesSpec.vars false (#[.slice none 0 0, .int .i64 0] : Array Value).toList 8 = some ([.nil, .lit (.int .i64 0)], [], places) :=
  ⟨[], by kernel_rfl⟩

set_option maxRecDepth 100000 in
theorem lifted (os : Os) (started : os.Started) (H : Type) (enc : TypeId × Value → H) (F : Stop.Interp) :
    ReturnsInHanded {} Tryz.checked os 5 .any ((Rows.OpenSpec.upto Rows.exportsNamesSpec).preRow enc Tryz.prog Tryz.f5 Rows.exportsNamesUptoRow.domain false Rows.exportsNamesUptoRow.laid) (((Rows.OpenSpec.upto Rows.exportsNamesSpec).at F).post enc Tryz.prog Tryz.f5 false true false false) := by
  obtain ⟨places, hx⟩ := reads os enc
  refine returnsInHanded_of_row (C := Tryz.checked) (s := (Rows.OpenSpec.upto Rows.exportsNamesSpec)) own started (by kernel_rfl) Tryz.func5
    (witness_row_at (enc := enc) (C := Tryz.checked) false ({ World.holding Tryz.prog os ⟨#[], #[], []⟩ with heap := layTabs (World.holding Tryz.prog os ⟨#[], #[], []⟩).heap } : World) #[.slice none 0 0, .int .i64 0] rfl (by kernel_rfl) (by kernel_rfl) (by kernel_rfl)
      (OpenSpec.preRow_of_cond 8 hx (by kernel_rfl) (fun k hk => by cases hk; kernel_rfl) (by kernel_rfl) (laid_met os))) ?_
  intro W base args ds gs before hval hW _ hcond _ hL hsh _
  exact contract H enc W base args ds gs before hval hW (hcond _ rfl) hL hsh

theorem said : Rows.ExportsNamesUptoSaid :=
  OpenClaim.holds_of_cond 5 Tryz.f5 rfl rfl rfl rfl rfl rfl rfl ⟨rfl, rfl, rfl, rfl, rfl⟩ rfl rfl rfl rfl rfl (by kernel_rfl) Tryz.func5 (by kernel_rfl)
    (of_decide_eq_true (by kernel_rfl)) (by unfold Func.isWrapper; first | (rw [if_pos (by decide +kernel)]; kernel_rfl) | (rw [if_neg (by decide +kernel)]; exact ⟨rfl, rfl⟩))
    (fun os started H enc _ F => by rw [OpenClaim.pre_eq_preRow]; exact lifted os started H enc F)

theorem plain (f : FuncId) (fn : Func) (hf : Tryz.pinned.checked.prog.funcNamed "gusset/gussetlaw12.ExportsNames" = some f) (hfn : Tryz.pinned.checked.prog.funcs[f]? = some fn) :
    false = Tryz.pinned.checked.prog.looks [] ∧ ∀ (j : Nat) t, fn.params[j]? = some t → Tryz.pinned.checked.prog.wantsStandIn t = false := by
  obtain rfl : f = 5 := Option.some.inj ((show Tryz.prog.funcNamed "gusset/gussetlaw12.ExportsNames" = some 5 by kernel_rfl).symm.trans hf) |>.symm
  obtain rfl : fn = Tryz.f5 := (Option.some.inj (Tryz.func5.symm.trans hfn)).symm
  refine ⟨by kernel_rfl, fun j t ht => ?_⟩
  rw [Tryz.params5] at ht
  have hm : t = 39 ∨ t = 3 := by simpa using Array.mem_of_getElem? ht
  rcases hm with rfl | rfl
  · exact (show Tryz.prog.wantsStandIn 39 = false by kernel_rfl)
  · exact (show Tryz.prog.wantsStandIn 3 = false by kernel_rfl)

theorem card : Rows.ExportsNamesUptoCardSaid :=
  Claim7.holds_tied_plain_at .later [] _ _ _ _ said (fun _ h => by cases h) (by kernel_rfl) (fun _ h => by cases h) exportsNamesUpto_row_tie rfl ⟨rfl, rfl⟩ (by kernel_rfl) rfl plain (by kernel_rfl)
end Go.Proofs.YtadkmlcnmkdfiaaGreatDoor.Nam
namespace Go.Proofs.YtadkmlcnmkdfiaaGreatDoor
theorem Nam_card : Rows.ExportsNamesUptoCardSaid := Nam.card
end Go.Proofs.YtadkmlcnmkdfiaaGreatDoor
