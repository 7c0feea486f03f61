/- Own text. The names that a module's entries give; the modules to which stars lead. The modules to which stars lead. Texts that are sorted, and each told once. The names that a module exports: Names. The names that a module exports: Names, the walk. -/
import Derived.Test.YtadkmlcnmkdfiaaGreatDoorGpA
import Derived.Deep.AppendLies
import Derived.Deep.AppendSrc
import Derived.Laws.OwnMore
import Derived.Laws.MakeOwn
import Derived.Test.YtadkmlcnmkdfiaaGreatDoorShelf
import Derived.Sort.OwnSorted
import Derived.Test.YtadkmlcnmkdfiaaGreatDoorGpC
namespace Go.Proofs.YtadkmlcnmkdfiaaGreatDoor
open Go.RowKit Xp
set_option linter.unusedVariables false
set_option linter.unusedSimpArgs false

/-- texts in a row of its own. -/
abbrev TS (w : World) (base : Nat) (v : Value) (l : List ByteArray) : Prop := w.ownsRow base 9 1 v l.length (l.map .string)
theorem TS.add {w : World} {base : Nat} {v : Value} {l : List ByteArray} {x : ByteArray} (h : w.ownsRow base 9 1 v (l.length + 1) (l.map .string ++ [.string x])) : TS w base v (l ++ [x]) := by
  have e1 : (l ++ [x]).length = l.length + 1 := by simp
  unfold TS
  rw [e1, List.map_append]
  exact h
theorem TS.form {w : World} {base : Nat} {v : Value} {l : List ByteArray} (h : TS w base v l) : ∃ a c, v = .slice a l.length c := by
  rcases h.2 with ⟨rfl, h0⟩ | ⟨g, cap, cur, rfl, _⟩
  · exact ⟨none, 0, by rw [h0]⟩
  · exact ⟨_, _, rfl⟩
theorem TS.nil (w : World) (base : Nat) : TS w base (.slice none 0 0) [] := World.ownsRow_nil _ _ _ _
theorem row_bel' {w w' : World} {base : Nat} {e : TypeId} {size : Nat} {v : Value} {n : Nat} {xs : List Value} (h : w.ownsRow base e size v n xs) (b : Below w.heap.size w w') : w'.ownsRow base e size v n xs :=
  h.kept (row := none) ⟨b.os, b.tape, b.output, b.size, fun k hk _ => b.block k hk⟩ (by cases v.ownBlock <;> simp)
theorem TS.bel {w w' : World} {base : Nat} {v : Value} {l : List ByteArray} (h : TS w base v l) (b : Below w.heap.size w w') : TS w' base v l := row_bel' h b
theorem info_st : (Tryz.prog.info? 9).map (fun i => (i.zero, i.size, i.bytes)) = some (some (.string ByteArray.empty), 1, 16) := by kernel_rfl
theorem under_strs : Tryz.prog.underlying 44 = some (.slice 9) := by kernel_rfl
def nmsE (e : Es) : List ByteArray := e.own.map (·.there) ++ e.oth.map (·.here)
theorem grow_below {w w' : World} {W : World} {v : Value} (hg : w.grownBy w' v.ownBlock) (hB : Below W.heap.size W w) (ho : ∀ j, v.ownBlock = some j → W.heap.size ≤ j) : Below W.heap.size W w' :=
  hB.trans ⟨hg.os, hg.tape, hg.output, hg.size, fun k hk => hg.block k (Nat.lt_of_lt_of_le hk hB.size) (fun e => by have := ho k e.symm; omega)⟩
set_option maxRecDepth 100000 in
set_option maxHeartbeats 8000000 in
theorem bnames_any {W : World} {bk : Nat} {v x y : Value} {L : List Es} (hb : W.heap[bk]? = some (.cells #[v, x, y] 106 (0, 0))) (hv : MsAt W W.heap.size v L) (hL : L.length ≤ 1048576) {m : Nat} (hm : m < L.length) (l1 : L[m].own.length ≤ 1048576) (l2 : L[m].oth.length ≤ 1048576) :
    Calls Tryz.prog 37 #[.pointer (some ⟨bk, 0, none⟩), .int .i64 (m : Nat)] W fun e w' => ∃ vs, e = .returned vs ∧ TS w' W.heap.size vs (nmsE L[m]) ∧ Below W.heap.size W w' := by
  have hbl := (Array.getElem?_eq_some_iff.1 hb).1
  obtain ⟨b, o, c, rfl, hbb, hcl⟩ := hv.cl (by omega)
  obtain ⟨v0, v1, v2, v3, hM⟩ := hcl m hm
  have hmi : ((m : Nat) : Int) < ((L.length : Nat) : Int) := by omega
  obtain ⟨i0, hi0, hz0, hz1, hz2⟩ := info_parts info_st
  have HM : Hid (∀ X, Below W.heap.size W X → MdAt X W.heap.size b (o + m * 4) L[m] v0 v1 v2 v3 ∧ X.cell? ⟨bk, 0, none⟩ = some (.slice (some ⟨b, o, none⟩) L.length c)) := fun X bX => by
    refine ⟨?_, (t3 ((bX.block _ hbl).trans hb)).1.1⟩
    have cA := fun j => (World.cell?_of_block (a := ⟨b, j, none⟩) (bX.block b hbb))
    exact ⟨(cA _).trans hM.c0, (cA _).trans hM.c1, (cA _).trans hM.c2, (cA _).trans hM.c3, hM.a0.bel bX, hM.a1.bel bX, hM.a2.bel bX, hM.a3.bel bX⟩
  have HN : Hid (nmsE L[m] = L[m].own.map (·.there) ++ L[m].oth.map (·.here)) := rfl
  generalize nmsE L[m] = N at *
  generalize L[m] = e at *
  obtain ⟨ao, co, rfl⟩ := hM.a1.op
  obtain ⟨at', ct, rfl⟩ := hM.a2.op
  obtain ⟨⟨_, m1, m2, _, _, _, _, _⟩, _⟩ := HM.out W (Below.refl _ _)
  obtain ⟨⟨_, _, _⟩, _, _, _⟩ := t3 hb
  clear hb hv hcl hM
  go_enter Tryz.func37, Tryz.ntmps37
  go_wp2
  go_loopw [5, 19] (fun v5 v19 wr => ∃ k : Nat, v19 = .int .i64 (k : Nat) ∧ k ≤ e.own.length ∧ TS wr W.heap.size v5 ((e.own.take k).map (·.there)) ∧ Below W.heap.size W wr) (fun _ v19 _ => e.own.length - (intOf v19).toNat)
  case atStart => exact ⟨0, rfl, by omega, by simpa using TS.nil _ _, Below.refl _ _⟩
  case round =>
    obtain ⟨k, rfl, hk, hT, hB⟩ := hrel
    obtain ⟨⟨_, mm1, mm2, _, _, ha1, ha2, _⟩, cbk⟩ := HM.out _ hB
    have hs := hB.size
    by_cases hlt : k < e.own.length
    · obtain ⟨bo, oo, cc, e', hbo, hce⟩ := ha1.cl (by omega)
      simp only [Value.slice.injEq] at e'
      obtain ⟨rfl, _, rfl⟩ := e'
      obtain ⟨d0, d1, d2, d3, d4⟩ := hce k hlt
      have HT : Hid ((e.own.take (k + 1)).map (·.there) = ((e.own.take k).map (·.there)) ++ [e.own[k].there]) := by show _ = _; rw [List.take_succ_eq_append_getElem hlt]; simp only [List.map_append, List.map_cons, List.map_nil, List.append_assoc]
      have hkl : ((k : Nat) : Int) < ((e.own.length : Nat) : Int) := by omega
      have hlen : ((e.own.take k).map (·.there)).length ≤ 2097152 := by simp; omega
      generalize e.own[k] = z at *
      generalize (e.own.take k).map (·.there) = N1 at *
      obtain ⟨av, cv, rfl⟩ := TS.form hT
      obtain ⟨Z, hZ⟩ : ∃ Z, wr.alloc (.cells #[.string z.here, .string z.there, .int .i64 z.mod, .bool z.ty, .int .i64 z.item] 49) = Z := ⟨_, rfl⟩
      have bz : Below W.heap.size W Z := by rw [← hZ]; exact hB.alloc hs _
      have m7 : Z.heap[wr.heap.size]? = some (.cells #[.string z.here, .string z.there, .int .i64 z.mod, .bool z.ty, .int .i64 z.item] 49 (0, 0)) := by rw [← hZ]; exact hnewX _ rfl
      have c7 : Z.cell? ⟨wr.heap.size, 1, none⟩ = some (.string z.there) := by simp [World.cell?, m7]
      have T1 : TS Z W.heap.size (.slice av N1.length cv) N1 := by rw [← hZ]; exact World.ownsRow.alloc hT _
      have T2 : Hid _ := World.ownsRow.alloc T1 (.cells #[.string z.there] 9)
      have sz := bz.size
      have B1 : Hid (Below W.heap.size W (Z.alloc (.cells #[.string z.there] 9))) := bz.alloc sz _
      have HO : Hid (∀ j, (Value.slice av N1.length cv).ownBlock = some j → W.heap.size ≤ j) := fun j hj => (World.ownsRow.lt hT j hj).1
      clear hT ha1 ha2 hce bz T1 m7
      go_wp2_with (at_builtin; refine wpList_append_lies _ (by rfl) _ _ _ (by rfl) W.heap.size 9 i0 _ 1 16 under_strs hi0 hz0 hz1 hz2 rfl (by omega) _ N1.length (N1.map .string) (by rfl) T2.out ⟨Z.heap.size, 0, none⟩ 1 1 [.string z.there] (by rfl) (by rfl) (World.news_of_block (cs := #[.string z.there]) (t := 9) (fr := (0, 0)) (hnewX _ rfl)) (by simp [Value.oneCell']) (by omega) (by unfold maxLen; omega) (by omega) (by simp; omega) (Z.heap.size + 1) (by simp) ?_; intro gg cap W3 hown hgrow hat hlt3)
      have hB3 := grow_below hgrow B1.out HO.out
      go_roundw
      case rel => exact ⟨k + 1, by simp, by omega, by rw [HT.out]; exact TS.add hown, hB3⟩
      case measure => simp [intOf]; omega
    · have hkl : ¬ ((k : Nat) : Int) < ((e.own.length : Nat) : Int) := by omega
      obtain rfl : k = e.own.length := by omega
      rw [List.take_length] at hT
      obtain ⟨Wf, hWf⟩ : ∃ Z : World, Z = wr := ⟨_, rfl⟩
      subst hWf
      have HTf : Hid _ := hT
      have HBf : Hid _ := hB
      clear hT ha1 ha2 hk hB
      go_wp2
      go_loopw [5, 38] (fun v5 v38 wr => ∃ k : Nat, v38 = .int .i64 (k : Nat) ∧ k ≤ e.oth.length ∧ TS wr W.heap.size v5 (e.own.map (·.there) ++ (e.oth.take k).map (·.here)) ∧ Below W.heap.size W wr) (fun _ v38 _ => e.oth.length - (intOf v38).toNat)
      case atStart => exact ⟨0, rfl, by omega, by rw [List.take_zero, List.map_nil, List.append_nil]; exact HTf.out, HBf.out⟩
      case round =>
          obtain ⟨k, rfl, hk, hT, hB⟩ := hrel
          obtain ⟨⟨_, mm1, mm2, _, _, ha1, ha2, _⟩, cbk⟩ := HM.out _ hB
          have hs := hB.size
          by_cases hlt : k < e.oth.length
          · obtain ⟨bo, oo, cc, e', hbo, hce⟩ := ha2.cl (by omega)
            simp only [Value.slice.injEq] at e'
            obtain ⟨rfl, _, rfl⟩ := e'
            obtain ⟨d0, d1, d2, d3, d4⟩ := hce k hlt
            have HT : Hid (e.own.map (·.there) ++ (e.oth.take (k + 1)).map (·.here) = (e.own.map (·.there) ++ (e.oth.take k).map (·.here)) ++ [e.oth[k].here]) := by show _ = _; rw [List.take_succ_eq_append_getElem hlt]; simp only [List.map_append, List.map_cons, List.map_nil, List.append_assoc]
            have hkl : ((k : Nat) : Int) < ((e.oth.length : Nat) : Int) := by omega
            have hlen : (e.own.map (·.there) ++ (e.oth.take k).map (·.here)).length ≤ 2097152 := by simp; omega
            generalize e.oth[k] = z at *
            generalize e.own.map (·.there) ++ (e.oth.take k).map (·.here) = N1 at *
            obtain ⟨av, cv, rfl⟩ := TS.form hT
            obtain ⟨Z, hZ⟩ : ∃ Z, wr.alloc (.cells #[.string z.here, .string z.there, .int .i64 z.mod, .bool z.ty, .int .i64 z.item] 49) = Z := ⟨_, rfl⟩
            have bz : Below W.heap.size W Z := by rw [← hZ]; exact hB.alloc hs _
            have m7 : Z.heap[wr.heap.size]? = some (.cells #[.string z.here, .string z.there, .int .i64 z.mod, .bool z.ty, .int .i64 z.item] 49 (0, 0)) := by rw [← hZ]; exact hnewX _ rfl
            have c7 : Z.cell? ⟨wr.heap.size, 0, none⟩ = some (.string z.here) := by simp [World.cell?, m7]
            have T1 : TS Z W.heap.size (.slice av N1.length cv) N1 := by rw [← hZ]; exact World.ownsRow.alloc hT _
            have T2 : Hid _ := World.ownsRow.alloc T1 (.cells #[.string z.here] 9)
            have sz := bz.size
            have B1 : Hid (Below W.heap.size W (Z.alloc (.cells #[.string z.here] 9))) := bz.alloc sz _
            have HO : Hid (∀ j, (Value.slice av N1.length cv).ownBlock = some j → W.heap.size ≤ j) := fun j hj => (World.ownsRow.lt hT j hj).1
            clear hT ha1 ha2 hce bz T1 m7
            go_wp2_with (at_builtin; refine wpList_append_lies _ (by rfl) _ _ _ (by rfl) W.heap.size 9 i0 _ 1 16 under_strs hi0 hz0 hz1 hz2 rfl (by omega) _ N1.length (N1.map .string) (by rfl) T2.out ⟨Z.heap.size, 0, none⟩ 1 1 [.string z.here] (by rfl) (by rfl) (World.news_of_block (cs := #[.string z.here]) (t := 9) (fr := (0, 0)) (hnewX _ rfl)) (by simp [Value.oneCell']) (by omega) (by unfold maxLen; omega) (by omega) (by simp; omega) (Z.heap.size + 1) (by simp) ?_; intro gg cap W3 hown hgrow hat hlt3)
            have hB3 := grow_below hgrow B1.out HO.out
            go_roundw
            case rel => exact ⟨k + 1, by simp, by omega, by rw [HT.out]; exact TS.add hown, hB3⟩
            case measure => simp [intOf]; omega
          · have hkl : ¬ ((k : Nat) : Int) < ((e.oth.length : Nat) : Int) := by omega
            obtain rfl : k = e.oth.length := by omega
            rw [List.take_length, ← HN.out] at hT
            clear ha1 ha2
            go_wp2
            go_ret
            exact ⟨_, rfl, hT, hB⟩
end Go.Proofs.YtadkmlcnmkdfiaaGreatDoor
namespace Go.Proofs.YtadkmlcnmkdfiaaGreatDoor
open Go.RowKit Xp
set_option linter.unusedVariables false
set_option linter.unusedSimpArgs false

def stp (n : Nat) (l : List Nat) (z : En) : List Nat := if hasB n z.mod = true ∧ z.mod.toNat ∉ l then l ++ [z.mod.toNat] else l
def bfs (L : List Es) : Nat → Nat → List Nat → List Nat
  | 0, _, l => l
  | f + 1, i, l => match l[i]? with
    | none => l
    | some m => bfs L f (i + 1) ((((L[m]?).map (·.st)).getD []).foldl (stp L.length) l)
def starL (L : List Es) (mod : Int) : List Nat := if hasB L.length mod = true then bfs L L.length 0 [mod.toNat] else []
theorem hasB_lt {n : Nat} {m : Int} (h : hasB n m = true) : 0 ≤ m ∧ m < n := by
  unfold hasB at h
  simpa using h
/-- told numbers in a row of its own. -/
abbrev TI (w : World) (base : Nat) (v : Value) (l : List Nat) : Prop := w.ownsRow base 3 1 v l.length (l.map fun (x : Nat) => .int .i64 (x : Nat))
theorem TI.add {w : World} {base : Nat} {v : Value} {l : List Nat} {x : Nat} (h : w.ownsRow base 3 1 v (l.length + 1) (l.map (fun (x : Nat) => Value.int .i64 (x : Nat)) ++ [.int .i64 (x : Nat)])) : TI w base v (l ++ [x]) := by
  have e1 : (l ++ [x]).length = l.length + 1 := by simp
  unfold TI
  rw [e1, List.map_append]
  exact h
theorem TI.form {w : World} {base : Nat} {v : Value} {l : List Nat} (h : TI w base v l) : ∃ a c, v = .slice a l.length c := by
  rcases h.2 with ⟨rfl, h0⟩ | ⟨g, cap, cur, rfl, _⟩
  · exact ⟨none, 0, by rw [h0]⟩
  · exact ⟨_, _, rfl⟩
theorem info_it : (Tryz.prog.info? 3).map (fun i => (i.zero, i.size, i.bytes)) = some (some (.int .i64 0), 1, 8) := by kernel_rfl
theorem info_bo : (Tryz.prog.info? 4).map (fun i => (i.zero, i.size, i.bytes)) = some (some (.bool false), 1, 1) := by kernel_rfl
theorem under_ints : Tryz.prog.underlying 76 = some (.slice 3) := by kernel_rfl
theorem under_bos : Tryz.prog.underlying 116 = some (.slice 4) := by kernel_rfl
/-- flags: which numbers were told. -/
def Flg (w : World) (g n : Nat) (l : List Nat) : Prop := ∃ cs : Array Value, w.heap[g]? = some (.cells cs 4 (0, 0)) ∧ cs.size = n ∧ ∀ j, j < n → cs[j]? = some (.bool (decide (j ∈ l)))
theorem Flg.at {w : World} {g n : Nat} {l : List Nat} (h : Flg w g n l) {j : Nat} (hj : j < n) : w.cell? ⟨g, j, none⟩ = some (.bool (decide (j ∈ l))) ∧ w.frozen? ⟨g, j, none⟩ = false := by
  obtain ⟨cs, h1, h2, h3⟩ := h
  exact ⟨(cell_of_row w g j cs _ _ h1).trans (h3 j hj), by simp [World.frozen?, h1]⟩
theorem Flg.keep {w w' : World} {g n : Nat} {l : List Nat} (h : Flg w g n l) (e : w'.heap[g]? = w.heap[g]?) : Flg w' g n l := by
  obtain ⟨cs, h1, r⟩ := h
  exact ⟨cs, e.trans h1, r⟩
theorem Flg.put {w : World} {g n : Nat} {l : List Nat} (h : Flg w g n l) (x : Nat) : Flg (w.setCell ⟨g, x, none⟩ (.bool true)) g n (l ++ [x]) := by
  obtain ⟨cs, h1, h2, h3⟩ := h
  refine ⟨cs.setIfInBounds x (.bool true), by simp [World.setCell, Array.getElem?_modify, h1, Array.setIfInBounds, Array.set!], by simp [h2], fun j hj => ?_⟩
  by_cases e : x = j
  · subst e
    rw [Array.getElem?_setIfInBounds_self_of_lt (by omega)]
    simp
  · rw [Array.getElem?_setIfInBounds_ne e, h3 j hj]
    simp [Ne.symm e]
def flB (n : Nat) : Array Value := madeCells (Value.bool false).cells n
theorem makeb_run (n : Nat) (hn : n ≤ 4194304) (W : World) : (Instr.makeSlice 116 (.int .i64 (n : Nat)) (.int .i64 (n : Nat))).run Tryz.prog W = .ok (.slice (some ⟨W.heap.size, 0, none⟩) n n) (W.alloc (.cells (flB n) 4)) := by
  obtain ⟨i0, hi0, hz0, hz1, hz2⟩ := info_parts info_bo
  have h := run_make (P := Tryz.prog) W 116 4 i0 (.bool false) under_bos hi0 hz0 .i64 .i64 n n (by omega) (by omega) (by rw [hz2]; omega) (by omega)
  rw [hz1] at h
  simpa [flB] using h
theorem Flg.made (w : World) (n : Nat) : Flg (w.alloc (.cells (flB n) 4)) w.heap.size n [] := by
  refine ⟨flB n, hnewX _ rfl, ?_, fun j hj => ?_⟩
  · simp [flB, madeCells, Value.cells]
  · simp [flB, madeCells, Value.cells, hj, Nat.mod_one]
theorem nodup_len_le : ∀ {l U : List Nat}, l.Nodup → (∀ x ∈ l, x ∈ U) → l.length ≤ U.length
  | [], U, _, _ => Nat.zero_le _
  | a :: l, U, hn, hs => by
    obtain ⟨h1, h2⟩ := List.nodup_cons.1 hn
    have hm : a ∈ U := hs a (by simp)
    have h3 := nodup_len_le (l := l) (U := U.filter fun x => decide (x ≠ a)) h2 (fun x hx => List.mem_filter.2 ⟨hs x (by simp [hx]), by simpa using fun e => h1 (by rw [← e]; exact hx)⟩)
    have h4 : (U.filter fun x => decide (x ≠ a)).length < U.length := List.length_filter_lt_length_iff_exists.2 ⟨a, hm, by simp⟩
    simp
    omega
theorem stp_nd {n : Nat} {l : List Nat} (z : En) (h : l.Nodup ∧ ∀ x ∈ l, x < n) : (stp n l z).Nodup ∧ ∀ x ∈ stp n l z, x < n := by
  unfold stp
  split
  · rename_i h2
    obtain ⟨h3, h4⟩ := h2
    have := hasB_lt h3
    refine ⟨List.nodup_append.2 ⟨h.1, by simp, fun a ha b hb => by simp at hb; rintro rfl; exact h4 (hb ▸ ha)⟩, fun x hx => ?_⟩
    rcases List.mem_append.1 hx with hx | hx
    · exact h.2 x hx
    · simp at hx; omega
  · exact h
theorem nd_len {n : Nat} {l : List Nat} (h : l.Nodup ∧ ∀ x ∈ l, x < n) : l.length ≤ n := by
  have := nodup_len_le (l := l) (U := List.range n) h.1 (fun x hx => List.mem_range.2 (h.2 x hx))
  simpa using this
theorem fold_pre (n : Nat) : ∀ (st : List En) (l : List Nat), ∃ r, st.foldl (stp n) l = l ++ r
  | [], l => ⟨[], by simp⟩
  | z :: st, l => by
    obtain ⟨r, hr⟩ := fold_pre n st (stp n l z)
    rw [List.foldl_cons, hr]
    unfold stp
    split
    · exact ⟨[z.mod.toNat] ++ r, by simp⟩
    · exact ⟨r, rfl⟩
theorem row_baseI {w : World} {base base' : Nat} {e : TypeId} {size : Nat} {v : Value} {n : Nat} {xs : List Value} (h : w.ownsRow base e size v n xs) (hb : base' ≤ base) : w.ownsRow base' e size v n xs := by
  refine ⟨h.1, ?_⟩
  rcases h.2 with hn | ⟨g, cap, cur, rfl, h1, rest⟩
  · exact .inl hn
  · exact .inr ⟨g, cap, cur, rfl, Nat.le_trans hb h1, rest⟩
theorem row_someI {w : World} {base : Nat} {e : TypeId} {size : Nat} {v : Value} {n : Nat} {xs : List Value} (h : w.ownsRow base e size v n xs) (hn : 0 < n) : ∃ g c, v = .slice (some ⟨g, 0, none⟩) n c ∧ base ≤ g ∧ n ≤ c := by
  rcases h.2 with ⟨rfl, rfl⟩ | ⟨g, cap, cur, rfl, h1, h2, h3, _⟩
  · omega
  · exact ⟨_, _, rfl, h1, h3⟩
theorem row_keepI {w w' : World} {base : Nat} {e : TypeId} {size : Nat} {v : Value} {n : Nat} {xs : List Value} (h : w.ownsRow base e size v n xs) (k : ∀ b, v.ownBlock = some b → w'.heap[b]? = w.heap[b]?) : w'.ownsRow base e size v n xs := by
  refine ⟨h.1, ?_⟩
  rcases h.2 with hn | ⟨g, cap, cur, rfl, hb, hg, rest⟩
  · exact .inl hn
  · exact .inr ⟨g, cap, cur, rfl, hb, (k g rfl).trans hg, rest⟩
/-- what the walk keeps. -/
structure Sta (W wr : World) (g n : Nat) (v6 : Value) (l : List Nat) : Prop where
  b : Below W.heap.size W wr
  f : Flg wr g n l
  t : TI wr (g + 1) v6 l
  nd : l.Nodup ∧ ∀ x ∈ l, x < n
  g0 : W.heap.size ≤ g
theorem Sta.gl {W wr : World} {g n : Nat} {v6 : Value} {l : List Nat} (h : Sta W wr g n v6 l) : g < wr.heap.size := by
  obtain ⟨cs, h1, _⟩ := h.f
  exact (Array.getElem?_eq_some_iff.1 h1).1
theorem Sta.bel {W wr X : World} {g n : Nat} {v6 : Value} {l : List Nat} (h : Sta W wr g n v6 l) (b : Below wr.heap.size wr X) : Sta W X g n v6 l :=
  ⟨h.b.trans (b.mono h.b.size), h.f.keep (b.block _ h.gl), row_bel' h.t b, h.nd, h.g0⟩
set_option maxRecDepth 100000 in
set_option maxHeartbeats 8000000 in
theorem starred_any {W : World} {bk : Nat} {v x y : Value} {L : List Es} (hb : W.heap[bk]? = some (.cells #[v, x, y] 106 (0, 0))) (hv : MsAt W W.heap.size v L) (hL : L.length ≤ 1048576) (hE : ∀ e ∈ L, e.st.length ≤ 1048576) (mod : Int) :
    Calls Tryz.prog 36 #[.pointer (some ⟨bk, 0, none⟩), .int .i64 mod] W fun e w' => ∃ vs, e = .returned vs ∧ TI w' W.heap.size vs (starL L mod) ∧ (∀ m ∈ starL L mod, m < L.length) ∧ Below W.heap.size W w' := by
  have hbl := (Array.getElem?_eq_some_iff.1 hb).1
  obtain ⟨ad, cp, rfl⟩ := hv.op
  have CH := fun (X : World) (h : X.heap[bk]? = some (.cells #[.slice ad L.length cp, x, y] 106 (0, 0))) m => has_any h hL m
  obtain ⟨⟨_, _, _⟩, _, _, _⟩ := t3 hb
  by_cases hh : hasB L.length mod = true
  rotate_left
  · have hh' : hasB L.length mod = false := by simpa using hh
    have C1 := CH W hb mod
    rw [hh'] at C1
    have HS : Hid (starL L mod = []) := by show _ = _; unfold starL; simp [hh']
    clear CH hb
    go_enter Tryz.func36, Tryz.ntmps36
    go_wp2_with (go_at_call 60; refine C1.mono ?_; rintro e W1 ⟨rfl, hW1⟩; obtain rfl := hW1.symm)
    go_ret
    exact ⟨_, rfl, by rw [HS.out]; exact World.ownsRow_nil _ _ _ _, by rw [HS.out]; simp, Below.refl _ _⟩
  · have C1 := CH W hb mod
    rw [hh] at C1
    obtain ⟨h0, h1⟩ := hasB_lt hh
    obtain ⟨m0, rfl⟩ : ∃ m0 : Nat, mod = (m0 : Int) := ⟨mod.toNat, by omega⟩
    have hm0 : m0 < L.length := by omega
    have HST : Hid (starL L (m0 : Nat) = bfs L L.length 0 [m0]) := by show _ = _; unfold starL; rw [if_pos hh]; rfl
    generalize starL L (m0 : Nat) = SL at *
    have hmk := makeb_run L.length (by omega)
    obtain ⟨b, o, c, e', hbb, hcl⟩ := hv.cl (by omega)
    simp only [Value.slice.injEq] at e'
    obtain ⟨rfl, _, rfl⟩ := e'
    -- modules, whatever came since
    have HM : Hid (∀ X, Below W.heap.size W X → X.heap[bk]? = some (.cells #[.slice (some ⟨b, o, none⟩) L.length cp, x, y] 106 (0, 0)) ∧ ∀ m (hm : m < L.length), ∃ v3, X.cell? ⟨b, o + m * 4 + 3, none⟩ = some v3 ∧ EnAt X W.heap.size v3 L[m].st) := fun X bX => by
      refine ⟨(bX.block _ hbl).trans hb, fun m hm => ?_⟩
      obtain ⟨v0, v1, v2, v3, hM⟩ := hcl m hm
      exact ⟨v3, (World.cell?_of_block (a := ⟨b, o + m * 4 + 3, none⟩) (bX.block b hbb)).trans hM.c3, hM.a3.bel bX⟩
    have HCH : Hid _ := CH
    obtain ⟨i0, hi0, hz0, hz1, hz2⟩ := info_parts info_it
    -- the beginning
    obtain ⟨X1, hX1⟩ : ∃ Z, W.alloc (.cells (flB L.length) 4) = Z := ⟨_, rfl⟩
    have b1 : Below W.heap.size W X1 := by rw [← hX1]; exact (Below.refl _ _).alloc (Nat.le_refl _) _
    have f1 : Flg X1 W.heap.size L.length [] := by rw [← hX1]; exact Flg.made _ _
    have s1 : W.heap.size < X1.heap.size := by obtain ⟨cs, h1, _⟩ := f1; exact (Array.getElem?_eq_some_iff.1 h1).1
    obtain ⟨q1, q2⟩ := f1.at hm0
    have f2 := f1.put m0
    obtain ⟨X2, hX2⟩ : ∃ Z, X1.setCell ⟨W.heap.size, m0, none⟩ (.bool true) = Z := ⟨_, rfl⟩
    have s2 : X2.heap.size = X1.heap.size := by rw [← hX2]; simp [World.setCell]
    have b2 : Below W.heap.size W X2 := by rw [← hX2]; exact b1.setCell (by simp) _
    rw [hX2] at f2
    have HS0 : Hid (Sta W (X2.alloc (.cells #[.int .i64 (m0 : Nat)] 3)) W.heap.size L.length (.slice (some ⟨X2.heap.size, 0, none⟩) 1 1) [m0]) :=
      ⟨b2.alloc b2.size _, f2.keep (Below.heap_alloc _ _ _ (by omega)), World.ownsRow_lit (base := W.heap.size + 1) (e := 3) (size := 1) X2 #[.int .i64 (m0 : Nat)] 1 (by omega) (by unfold maxLen; decide) rfl, ⟨by simp, by simpa using hm0⟩, Nat.le_refl _⟩
    have hm0i : ((m0 : Nat) : Int) < ((L.length : Nat) : Int) := by omega
    clear f1 f2 b1 b2 s1 s2 hb hcl CH
    go_enter Tryz.func36, Tryz.ntmps36
    go_wp2_with (go_at_call 60; refine C1.mono ?_; rintro e W1 ⟨rfl, hW1⟩; obtain rfl := hW1.symm)
    generalize X2.alloc (.cells #[.int .i64 (m0 : Nat)] 3) = X3 at *
    go_loopw [6, 7] (fun v6 v7 wr => ∃ (i : Nat) (l : List Nat), v7 = .int .i64 (i : Nat) ∧ i ≤ l.length ∧ Sta W wr W.heap.size L.length v6 l ∧ Hid (bfs L (L.length - i) i l = SL)) (fun _ v7 _ => L.length + 1 - (intOf v7).toNat)
    case atStart => exact ⟨0, [m0], rfl, by simp, HS0.out, HST.out.symm⟩
    case round =>
      obtain ⟨i, l, rfl, hi, hS, HB⟩ := hrel
      have hln := nd_len hS.nd
      obtain ⟨av, cv, rfl⟩ := TI.form hS.t
      have HSt : Hid _ := hS
      obtain ⟨Wf, hWf⟩ : ∃ Z : World, Z = wr := ⟨_, rfl⟩
      subst hWf
      by_cases hlt : i < l.length
      · obtain ⟨hbk, hmd⟩ := HM.out _ hS.b
        have hml : l[i] < L.length := hS.nd.2 _ (List.getElem_mem hlt)
        obtain ⟨v3, cv3, hst⟩ := hmd l[i] hml
        have hstl := hE L[l[i]] (List.getElem_mem hml)
        obtain ⟨sa, sc, rfl⟩ := hst.op
        obtain ⟨⟨_, _, _⟩, _, _, _⟩ := t3 hbk
        have hltI : ((i : Nat) : Int) < ((l.length : Nat) : Int) := by omega
        obtain ⟨gl, cl, e', _, _⟩ := row_someI hS.t (by omega)
        simp only [Value.slice.injEq] at e'
        obtain ⟨rfl, _, rfl⟩ := e'
        have ci := World.ownsRow.cellAt hS.t i (by omega)
        rw [List.getElem?_map, List.getElem?_eq_getElem hlt] at ci
        simp only [Option.map_some] at ci
        have HBF : Hid (bfs L (L.length - i) i l = bfs L (L.length - (i + 1)) (i + 1) (L[l[i]].st.foldl (stp L.length) l)) := by
          show _ = _
          rw [show L.length - i = (L.length - (i + 1)) + 1 by omega]
          simp only [bfs, List.getElem?_eq_getElem hlt, List.getElem?_eq_getElem hml, Option.map_some, Option.getD_some]
        have HBQ : Hid _ := HB.out
        have HPRE : Hid (∃ r, L[l[i]].st.foldl (stp L.length) l = l ++ r) := fold_pre _ _ _
        have HST2 : Hid (∀ X, Below W.heap.size W X → EnAt X W.heap.size (.slice sa L[l[i]].st.length sc) L[l[i]].st) := fun X bX => by
          obtain ⟨_, hm2⟩ := HM.out X bX
          obtain ⟨v3', c3', h3'⟩ := hm2 l[i] hml
          have := (World.cell?_of_block (a := ⟨b, o + l[i] * 4 + 3, none⟩) (bX.block b hbb))
          have h4 := (World.cell?_of_block (a := ⟨b, o + l[i] * 4 + 3, none⟩) (hS.b.block b hbb))
          rw [this, ← h4, cv3] at c3'
          injection c3' with c3'
          rw [c3']
          exact h3'
        have hmi : ((l[i] : Nat) : Int) < ((L.length : Nat) : Int) := by omega
        generalize L[l[i]].st = st at *
        generalize l[i] = mi at *
        clear hS hmd hst HB hltI
        have hltI : ((i : Nat) : Int) < ((l.length : Nat) : Int) := by omega
        go_wp2_with fail
        go_region
        go_wp2
        go_loopw [6, 43] (fun v6 v43 wr => ∃ (k : Nat) (l' : List Nat), v43 = .int .i64 (k : Nat) ∧ k ≤ st.length ∧ Sta W wr W.heap.size L.length v6 l' ∧ Hid ((st.take k).foldl (stp L.length) l = l')) (fun _ v43 _ => st.length - (intOf v43).toNat)
        case atStart => exact ⟨0, l, rfl, by omega, HSt.out.bel (Below.refl _ _).drew, rfl⟩
        case round =>
          obtain ⟨k, l', rfl, hk, hS, HL⟩ := hrel
          obtain ⟨av', cv', rfl⟩ := TI.form hS.t
          have hln' := nd_len hS.nd
          by_cases hkl : k < st.length
          · obtain ⟨bo, oo, cc, e', hbo, hce⟩ := (HST2.out _ hS.b).cl (by omega)
            simp only [Value.slice.injEq] at e'
            obtain ⟨rfl, _, rfl⟩ := e'
            obtain ⟨d0, d1, d2, d3, d4⟩ := hce k hkl
            have HN : Hid ((st.take (k + 1)).foldl (stp L.length) l = stp L.length l' st[k]) := by show _ = _; rw [List.take_succ_eq_append_getElem hkl, List.foldl_append, HL.out]; rfl
            have hklI : ((k : Nat) : Int) < ((st.length : Nat) : Int) := by omega
            generalize st[k] = z at *
            obtain ⟨Z, hZ⟩ : ∃ Z, wr.alloc (.cells #[.string z.here, .string z.there, .int .i64 z.mod, .bool z.ty, .int .i64 z.item] 49) = Z := ⟨_, rfl⟩
            have bz : Below wr.heap.size wr Z := by rw [← hZ]; exact (Below.refl _ _).alloc (Nat.le_refl _) _
            have m9 : Z.heap[wr.heap.size]? = some (.cells #[.string z.here, .string z.there, .int .i64 z.mod, .bool z.ty, .int .i64 z.item] 49 (0, 0)) := by rw [← hZ]; exact hnewX _ rfl
            have c9 : Z.cell? ⟨wr.heap.size, 2, none⟩ = some (.int .i64 z.mod) := by simp [World.cell?, m9]
            have hSZ := hS.bel bz
            have HSZ : Hid _ := hSZ
            have C2 := HCH.out Z (HM.out _ hSZ.b).1 z.mod
            clear hce HL
            cases hz : hasB L.length z.mod with
            | false =>
              rw [hz] at C2
              have HS' : Hid (stp L.length l' z = l') := by show _ = _; unfold stp; simp [hz]
              clear hz hS hSZ
              go_wp2_with (go_at_call 60; refine C2.mono ?_; rintro e W1 ⟨rfl, hW1⟩; obtain rfl := hW1.symm)
              go_roundw
              case rel => exact ⟨k + 1, l', by simp, by omega, HSZ.out, HN.out.trans HS'.out⟩
              case measure => simp [intOf]; omega
            | true =>
              rw [hz] at C2
              obtain ⟨z0, z1⟩ := hasB_lt hz
              obtain ⟨zh, zt, zmo, zty, zit⟩ := z
              simp only at z0 z1 hz c9 C2 d0 d1 d2 d3 d4 hZ
              obtain ⟨zm, rfl⟩ : ∃ zm : Nat, zmo = (zm : Int) := ⟨zmo.toNat, by omega⟩
              have hzl : zm < L.length := by omega
              have hzt : ((zm : Nat) : Int).toNat = zm := by omega
              obtain ⟨f1, f2⟩ := hSZ.f.at hzl
              have hzi : ((zm : Nat) : Int) < ((L.length : Nat) : Int) := by omega
              by_cases hin : zm ∈ l'
              · have HS' : Hid (stp L.length l' ⟨zh, zt, (zm : Nat), zty, zit⟩ = l') := by show _ = _; unfold stp; simp [hzt, hin]
                rw [decide_eq_true hin] at f1
                clear hz hS hSZ hin z0 z1
                go_wp2_with (go_at_call 60; refine C2.mono ?_; rintro e W1 ⟨rfl, hW1⟩; obtain rfl := hW1.symm)
                go_roundw
                case rel => exact ⟨k + 1, l', by simp, by omega, HSZ.out, HN.out.trans HS'.out⟩
                case measure => simp [intOf]; omega
              · have HS' : Hid (stp L.length l' ⟨zh, zt, (zm : Nat), zty, zit⟩ = l' ++ [zm]) := by show _ = _; unfold stp; rw [if_pos ⟨hz, by rw [hzt]; exact hin⟩, hzt]
                rw [decide_eq_false hin] at f1
                have F2 := hSZ.f.put zm
                have gZ := hSZ.gl
                have hne9 : wr.heap.size ≠ W.heap.size := by have := hS.gl; omega
                have c9' : (Z.setCell ⟨W.heap.size, zm, none⟩ (.bool true)).cell? ⟨wr.heap.size, 2, none⟩ = some (.int .i64 (zm : Nat)) := (World.cell?_of_block (a := ⟨wr.heap.size, 2, none⟩) (Below.heap_setCell _ _ _ _ hne9)).trans c9
                have T2 : TI (Z.setCell ⟨W.heap.size, zm, none⟩ (.bool true)) (W.heap.size + 1) (.slice av' l'.length cv') l' := row_keepI hSZ.t (fun j hj => Below.heap_setCell _ _ _ _ (by have := (World.ownsRow.lt hSZ.t j hj).1; show j ≠ W.heap.size; omega))
                obtain ⟨Y, hY⟩ : ∃ Y, Z.setCell ⟨W.heap.size, zm, none⟩ (.bool true) = Y := ⟨_, rfl⟩
                have bY : Below W.heap.size W Y := by rw [← hY]; exact hSZ.b.setCell (by simp) _
                have sY : Z.heap.size ≤ Y.heap.size := by rw [← hY]; simp [World.setCell]
                rw [hY] at F2 T2 c9'
                have T3 : Hid _ := World.ownsRow.alloc T2 (.cells #[.int .i64 (zm : Nat)] 3)
                have bYs := bY.size
                have FIN : Hid (∀ (W3 : World) (gg cap : Nat), W3.ownsRow (W.heap.size + 1) 3 1 (.slice (some ⟨gg, 0, none⟩) (l'.length + 1) cap) (l'.length + 1) (l'.map (fun (x : Nat) => Value.int .i64 (x : Nat)) ++ [.int .i64 (zm : Nat)]) → (Y.alloc (.cells #[.int .i64 (zm : Nat)] 3)).grownBy W3 (Value.slice av' l'.length cv').ownBlock → Sta W W3 W.heap.size L.length (.slice (some ⟨gg, 0, none⟩) (l'.length + 1) cap) (l' ++ [zm])) := fun W3 gg cap ho hg => by
                  have hlow : ∀ j, (Value.slice av' l'.length cv').ownBlock = some j → W.heap.size + 1 ≤ j := fun j hj => (World.ownsRow.lt hSZ.t j hj).1
                  refine ⟨grow_below hg (bY.alloc bYs _) (fun j hj => by have := hlow j hj; omega), F2.keep ((hg.block W.heap.size (by simp; omega) (fun e => by have := hlow _ e.symm; omega)).trans (Below.heap_alloc _ _ _ (by omega))), TI.add ho, ?_, Nat.le_refl _⟩
                  have := stp_nd ⟨zh, zt, (zm : Nat), zty, zit⟩ hSZ.nd
                  rwa [HS'.out] at this
                clear hz hS hSZ hin z0 z1 F2 T2 bY
                go_wp2_with fail
                go_at_call 60
                refine C2.mono ?_
                rintro e W1 ⟨rfl, hW1⟩
                obtain rfl := hW1
                go_wp2_with (at_builtin; refine wpList_append_lies _ (by rfl) _ _ _ (by rfl) (W.heap.size + 1) 3 i0 _ 1 8 under_ints hi0 hz0 hz1 hz2 rfl (by omega) _ l'.length (l'.map fun (x : Nat) => .int .i64 (x : Nat)) (by rfl) T3.out ⟨Y.heap.size, 0, none⟩ 1 1 [.int .i64 (zm : Nat)] (by rfl) (by rfl) (World.news_of_block (cs := #[.int .i64 (zm : Nat)]) (t := 3) (fr := (0, 0)) (hnewX _ rfl)) (by simp [Value.oneCell']) (by omega) (by unfold maxLen; omega) (by omega) (by simp; omega) (Y.heap.size + 1) (by simp) ?_; intro gg cap W3 hown hgrow hat hlt3)
                have hS3 := FIN.out W3 gg cap hown hgrow
                go_roundw
                case rel => exact ⟨k + 1, l' ++ [zm], by simp, by omega, by simpa using hS3, HN.out.trans HS'.out⟩
                case measure => simp [intOf]; omega
          · have hge : ¬ ((k : Nat) : Int) < ((st.length : Nat) : Int) := by omega
            obtain rfl : k = st.length := by omega
            have HL2 : Hid (st.foldl (stp L.length) l = l') := by have := HL.out; rwa [List.take_length] at this
            have HSE : Hid _ := hS
            obtain ⟨r, hr⟩ := HPRE.out
            have HI : Hid (i + 1 ≤ l'.length) := by show _ ≤ _; rw [← HL2.out, hr, List.length_append]; omega
            clear hS hk HL hr
            go_wp2
            go_roundw
            case rel => exact ⟨i + 1, l', by simp, HI.out, HSE.out, by show _ = _; rw [← HL2.out, ← HBF.out, HBQ.out]⟩
            case measure => simp [intOf]; omega
      · have hge : ¬ ((i : Nat) : Int) < ((l.length : Nat) : Int) := by omega
        have HR : Hid (SL = l) := by
          show _ = _
          rw [← HB.out]
          cases hq : L.length - i with
          | zero => rfl
          | succ f => simp only [bfs, List.getElem?_eq_none (by omega : l.length ≤ i)]
        have HF : Hid (∀ m ∈ l, m < L.length) := hS.nd.2
        have HT : Hid (TI Wf W.heap.size (.slice av l.length cv) l) := row_baseI hS.t (by omega)
        have HBW : Hid _ := hS.b
        clear hS
        go_wp2
        go_ret
        refine ⟨_, rfl, ?_, ?_, HBW.out⟩
        · rw [HR.out]; exact HT.out
        · rw [HR.out]; exact HF.out
theorem fold_nd (n : Nat) : ∀ (st : List En) (l : List Nat), (l.Nodup ∧ ∀ x ∈ l, x < n) → ((st.foldl (stp n) l).Nodup ∧ ∀ x ∈ st.foldl (stp n) l, x < n)
  | [], l, h => h
  | z :: st, l, h => fold_nd n st _ (stp_nd z h)
theorem bfs_nd (L : List Es) : ∀ (f i : Nat) (l : List Nat), (l.Nodup ∧ ∀ x ∈ l, x < L.length) → ((bfs L f i l).Nodup ∧ ∀ x ∈ bfs L f i l, x < L.length)
  | 0, i, l, h => h
  | f + 1, i, l, h => by
    unfold bfs
    split
    · exact h
    · exact bfs_nd L f (i + 1) _ (fold_nd _ _ _ h)
theorem nodup_star (L : List Es) (mod : Int) : (starL L mod).Nodup ∧ ∀ x ∈ starL L mod, x < L.length := by
  unfold starL
  split
  · rename_i h
    have := hasB_lt h
    exact bfs_nd L _ _ _ ⟨by simp, by simp; omega⟩
  · simp
end Go.Proofs.YtadkmlcnmkdfiaaGreatDoor
namespace Go.Proofs.YtadkmlcnmkdfiaaGreatDoor
open Go.RowKit Xp Go.Sort
set_option linter.unusedVariables false
set_option linter.unusedSimpArgs false

/-- texts laid behind others. -/
theorem run_appS (w : World) (ty : TypeId) (base : Nat) (v : Value) (G : List ByteArray) (hown : TS w base v G) (base2 : Nat) (y : Value) (F : List ByteArray) (hy : TS w base2 y F)
    (hb : (G.length + F.length) * 16 ≤ 140737488355328) (hbase : base ≤ w.heap.size) :
    ∃ v' w', (Builtin.append_ #[44, 44] ty #[v, y]).run Tryz.prog w = .ok v' w' ∧ TS w' base v' (G ++ F) ∧ w.grownBy w' v.ownBlock ∧ (v'.ownBlock = v.ownBlock ∨ v'.ownBlock = some w.heap.size) := by
  obtain ⟨i0, hi0, hz0, hz1, hz2⟩ := info_parts info_st
  rcases hy.2 with ⟨rfl, hF⟩ | ⟨g, cap, cur, rfl, _⟩
  · have hF' : F = [] := List.length_eq_zero_iff.1 hF
    subst hF'
    refine ⟨v, w, ?_, by rw [List.append_nil]; exact hown, ⟨rfl, rfl, rfl, Nat.le_refl _, fun _ _ _ => rfl⟩, .inl rfl⟩
    rcases hown.2 with ⟨rfl, h0⟩ | ⟨g, cap, cur, rfl, hb, hg, hn, hm, hcs, htk⟩
    · simp [Builtin.append_, run_underlying under_strs, Builtin.lenOf]
      rw [run_firstCells_none w 1 0 0 0]
      rfl
    · have := run_append_room_src (P := Tryz.prog) w 44 44 ty 9 i0 under_strs hi0 g 0 G.length cap (.slice none 0 0) 0 [] (Src.ofNil w under_strs 0) (by omega) (fun j hj => by simp at hj) (fun j hj => by simp at hj)
      simpa [World.setCells] using this
  · obtain ⟨v', w', h1, h2, h3, _, h5⟩ := run_append_own_at (P := Tryz.prog) w base 44 ty 9 i0 _ 1 16 under_strs hi0 hz0 hz1 hz2 rfl (by omega) v G.length (G.map .string) hown ⟨g, 0, none⟩ F.length cap (F.map .string) (by simp) (fun j u hu => by
      have hj : j < F.length := by have := (List.getElem?_eq_some_iff.1 hu).1; simpa using this
      have := World.ownsRow.cellAt hy j (by omega)
      rw [hu] at this
      have e : (⟨g, 0, none⟩ : Addr).add j = ⟨g, j, none⟩ := by unfold Addr.add; split <;> simp_all
      rw [e]
      exact this) (by simp [Value.oneCell']) (by unfold maxLen; omega) hb hbase
    refine ⟨v', w', h1, ?_, h3, h5⟩
    unfold TS
    rw [List.length_append, List.map_append]
    exact h2
theorem wpList_appS (w : World) {ops : Array Oper} {rest : List Oper} {o : Oper} {a : Act} {Q : Exit → Act → World → Prop} (hgd : o.guard = none) (s x : Operand)
    (ho : o.op = .call { callee := .builtin .append, args := #[s, x], argTypes := #[44, 44] }) (base : Nat) (v : Value) (G : List ByteArray) (hs : a.eval s = v) (hown : TS w base v G) (base2 : Nat) (y : Value) (F : List ByteArray) (hx : a.eval x = y) (hy : TS w base2 y F)
    (hb : (G.length + F.length) * 16 ≤ 140737488355328) (hbase : base ≤ w.heap.size)
    (h : ∀ v' w', TS w' base v' (G ++ F) → w.grownBy w' v.ownBlock → (v'.ownBlock = v.ownBlock ∨ v'.ownBlock = some w.heap.size) → wpList Tryz.prog ops Q rest (a.put o.dst v') w') :
    wpList Tryz.prog ops Q (o :: rest) a w := by
  refine wpList_plain hgd fun K hK => ?_
  obtain ⟨v', w', hr, h2, h3, h5⟩ := run_appS w o.type base v G hown base2 y F hy hb hbase
  unfold Oper.wp execOp
  simp only [ho, resolve, invoke, builtin, Sem.run_bind, Sem.run_pure, Result.andThen_ok, List.map_toArray, List.map_cons, List.map_nil, hs, hx, hr]
  exact hK _ _ (h v' w' h2 h3 h5)
def bsL (G : List ByteArray) : List (List UInt8) := G.map fun s => s.data.toList
def unB (l : List (List UInt8)) : List ByteArray := l.map fun s => ⟨s.toArray⟩
def srt (G : List ByteArray) : List (List UInt8) := (bsL G).mergeSort fun x y => decide (x ≤ y)
theorem srt_len (G : List ByteArray) : (srt G).length = G.length := by unfold srt bsL; rw [List.length_mergeSort]; simp
theorem enc_un (l : List (List UInt8)) : l.map encStr = (unB l).map .string := by unfold unB; rw [List.map_map]; rfl
theorem bs_enc (G : List ByteArray) : (bsL G).map encStr = G.map .string := by unfold bsL; rw [List.map_map]; rfl
theorem sort_any {w : World} {base : Nat} {v : Value} {G : List ByteArray} (h : TS w base v G) (hl : G.length ≤ 4398046511104) : Calls Tryz.prog 38 #[v] w fun e w' => e = .returned (.tuple #[]) ∧ TS w' base v (unB (srt G)) ∧ w.grownBy w' v.ownBlock := by
  by_cases h0 : G.length = 0
  · obtain rfl : G = [] := List.length_eq_zero_iff.1 h0
    obtain ⟨a, c, rfl⟩ := TS.form h
    refine (Tryz.slices_Sort_string_none a c w).mono ?_
    rintro e w' ⟨rfl, rfl⟩
    refine ⟨rfl, ?_, ⟨rfl, rfl, rfl, Nat.le_refl _, fun _ _ _ => rfl⟩⟩
    simpa [srt, bsL, unB] using h
  · rcases h.2 with ⟨_, h1⟩ | ⟨g, cap, cur, rfl, hb, hg, hn, hm, hcs, htk⟩
    · exact absurd h1 h0
    · have hgl := (Array.getElem?_eq_some_iff.1 hg).1
      have e1 : (bsL G).length = G.length := by simp [bsL]
      have hH : Holds encStr w g 0 (bsL G).toArray := holds_of_block hg (by rw [e1, bs_enc]; simpa using htk)
      have C := Tryz.slices_Sort_string g 0 cap (bsL G) w hH hgl (by omega)
      rw [e1] at C
      refine C.mono ?_
      rintro e w' ⟨rfl, n, os, rfl⟩
      refine ⟨rfl, ⟨by simp [unB, srt_len], .inr ⟨g, cap, _, by simp [unB, srt_len], hb, heap_sorted _ hg, by simpa [unB, srt_len] using hn, hm, by simp [putCells, hcs], ?_⟩⟩, grownBy_sorted _⟩
      rw [← enc_un]
      have : (unB (srt G)).length * 1 = (srt G).length := by simp [unB]
      rw [this]
      exact take_putCells cur (srt G) (by rw [srt_len]; omega)
end Go.Proofs.YtadkmlcnmkdfiaaGreatDoor
namespace Go.Proofs.YtadkmlcnmkdfiaaGreatDoor
open Go.RowKit Xp Go.Sort
set_option linter.unusedVariables false
set_option linter.unusedSimpArgs false

theorem cpu_len (d : Array (List UInt8)) : ∀ m, (Lib.compactUpTo d m).length ≤ m
  | 0 => by simp [Lib.compactUpTo]
  | m + 1 => by
    rw [Lib.compactUpTo_succ, List.length_append]
    have := cpu_len d m
    split <;> simp <;> omega
theorem cpu_mem (d : Array (List UInt8)) : ∀ m, m ≤ d.size → ∀ x ∈ Lib.compactUpTo d m, x ∈ d.toList
  | 0, _, x, hx => by simp [Lib.compactUpTo] at hx
  | m + 1, hm, x, hx => by
    rw [Lib.compactUpTo_succ] at hx
    rcases List.mem_append.1 hx with hx | hx
    · exact cpu_mem d m (by omega) x hx
    · split at hx
      · simp at hx
        rw [hx]
        have h2 : m < d.size := by omega
        simp [h2]
      · simp at hx
theorem cpt_len (l : List (List UInt8)) : (Lib.compact l).length ≤ l.length := cpu_len _ _
theorem cpt_mem {l : List (List UInt8)} {x : List UInt8} (h : x ∈ Lib.compact l) : x ∈ l := by
  have := cpu_mem l.toArray l.length (by simp) x h
  simpa using this
theorem un_len (l : List (List UInt8)) : (unB l).length = l.length := by simp [unB]
theorem grow_nil (w : World) : grow w #[] = w := by simp [grow]
theorem compact_any {w : World} {base : Nat} {v : Value} {l : List (List UInt8)} (h : TS w base v (unB l)) (hl : l.length ≤ 4398046511104) : Calls Tryz.prog 39 #[v] w fun e w' => ∃ v', e = .returned v' ∧ TS w' base v' (unB (Lib.compact l)) ∧ w.grownBy w' v.ownBlock ∧ v'.ownBlock = v.ownBlock := by
  have hul := un_len l
  by_cases h0 : l.length = 0
  · obtain rfl : l = [] := List.length_eq_zero_iff.1 h0
    obtain ⟨a, c, rfl⟩ := TS.form h
    refine (Tryz.slices_Compact_string_empty a c w).mono ?_
    rintro e w' ⟨rfl, rfl⟩
    exact ⟨_, rfl, h, ⟨rfl, rfl, rfl, Nat.le_refl _, fun _ _ _ => rfl⟩, rfl⟩
  · rcases h.2 with ⟨_, h1⟩ | ⟨g, cap, cur, rfl, hb, hg, hn, hm, hcs, htk⟩
    · omega
    · have hH : Holds encStr w g 0 l.toArray := holds_of_block hg (by rw [enc_un]; simpa [hul] using htk)
      have C := Tryz.slices_Compact_string g 0 cap l w hH (by omega) (by omega)
      have hcl := cpt_len l
      rw [hul]
      refine C.mono ?_
      rintro e w' ⟨rfl, q, rfl⟩
      refine ⟨_, rfl, ?_, ?_, rfl⟩
      · have hh := heap_sorted (n := q) (os := #[]) (Lib.compact l ++ List.replicate (l.length - (Lib.compact l).length) []).toArray hg
        rw [grow_nil] at hh
        refine ⟨by simp, .inr ⟨g, cap, _, by rw [un_len], hb, hh, by rw [un_len]; omega, hm, by simp [putCells, hcs], ?_⟩⟩
        have h2 := take_putCells cur (Lib.compact l ++ List.replicate (l.length - (Lib.compact l).length) []) (by simp; omega)
        have h3 := congrArg (List.take (Lib.compact l).length) h2
        rw [List.take_take, Nat.min_eq_left (by simp), List.map_append, List.take_left' (by simp)] at h3
        rw [un_len, Nat.mul_one, h3, enc_un]
      · have := grownBy_sorted (w := w) (g := g) (n := q) (os := #[]) (Lib.compact l ++ List.replicate (l.length - (Lib.compact l).length) []).toArray
        rwa [grow_nil] at this
def givL (L : List Es) (S : List Nat) : List ByteArray := S.flatMap fun m => ((L[m]?).map nmsE).getD []
def candL (L : List Es) (mod : Int) : List ByteArray := unB (Lib.compact (srt (givL L (starL L mod))))
def namL (L : List Es) (mod : Int) : List ByteArray := (candL L mod).filter fun n => leads (rsv L (mod, n))
theorem giv_len {L : List Es} (hE : ∀ e ∈ L, e.own.length ≤ 1048576 ∧ e.oth.length ≤ 1048576) : ∀ S : List Nat, (givL L S).length ≤ S.length * 2097152
  | [] => by simp [givL]
  | m :: S => by
    have ih := giv_len hE S
    unfold givL at ih ⊢
    rw [List.flatMap_cons, List.length_append, List.length_cons]
    have : (((L[m]?).map nmsE).getD []).length ≤ 2097152 := by
      cases h : L[m]? with
      | none => simp
      | some e =>
        have := hE e (List.mem_of_getElem? h)
        simp [nmsE]
        omega
    omega
theorem giv_mem {L : List Es} {S : List Nat} {x : ByteArray} (h : x ∈ givL L S) : ∃ e ∈ L, x ∈ nmsE e := by
  unfold givL at h
  obtain ⟨m, _, hx⟩ := List.mem_flatMap.1 h
  cases h2 : L[m]? with
  | none => rw [h2] at hx; simp at hx
  | some e => rw [h2] at hx; exact ⟨e, List.mem_of_getElem? h2, by simpa using hx⟩
theorem cand_mem {L : List Es} {mod : Int} {x : ByteArray} (h : x ∈ candL L mod) : ∃ e ∈ L, x ∈ nmsE e := by
  unfold candL unB at h
  obtain ⟨y, hy, rfl⟩ := List.mem_map.1 h
  have h1 := cpt_mem hy
  unfold srt at h1
  rw [List.mem_mergeSort] at h1
  unfold bsL at h1
  obtain ⟨z, hz, rfl⟩ := List.mem_map.1 h1
  exact giv_mem (S := starL L mod) (by simpa using hz)
end Go.Proofs.YtadkmlcnmkdfiaaGreatDoor
namespace Go.Proofs.YtadkmlcnmkdfiaaGreatDoor
open Go.RowKit Xp Go.Sort
set_option linter.unusedVariables false
set_option linter.unusedSimpArgs false

theorem TI.at {w : World} {base : Nat} {v : Value} {l : List Nat} (h : TI w base v l) {i : Nat} (hi : i < l.length) : ∃ g c, v = .slice (some ⟨g, 0, none⟩) l.length c ∧ base ≤ g ∧ g < w.heap.size ∧ w.cell? ⟨g, i, none⟩ = some (.int .i64 (l[i] : Nat)) := by
  obtain ⟨g, c, rfl, hb, _⟩ := row_someI h (by omega)
  have ci := World.ownsRow.cellAt h i (by omega)
  rw [List.getElem?_map, List.getElem?_eq_getElem hi] at ci
  exact ⟨g, c, rfl, hb, (World.ownsRow.lt h g rfl).2, ci⟩
theorem TS.at {w : World} {base : Nat} {v : Value} {l : List ByteArray} (h : TS w base v l) {i : Nat} (hi : i < l.length) : ∃ g c, v = .slice (some ⟨g, 0, none⟩) l.length c ∧ base ≤ g ∧ g < w.heap.size ∧ w.cell? ⟨g, i, none⟩ = some (.string l[i]) := by
  obtain ⟨g, c, rfl, hb, _⟩ := row_someI h (by omega)
  have ci := World.ownsRow.cellAt h i (by omega)
  rw [List.getElem?_map, List.getElem?_eq_getElem hi] at ci
  exact ⟨g, c, rfl, hb, (World.ownsRow.lt h g rfl).2, ci⟩
/-- while candidates are asked. -/
structure Nmw (W W5 wr : World) (bk mA mG : Nat) (v : Value) (L : List Es) (vc : Value) (C : List ByteArray) (v9 : Value) (N : List ByteArray) (B : Nat) : Prop where
  b : Below W.heap.size W wr
  bk : ∃ A, Bk wr bk mA mG v L A
  c : TS wr B vc C
  n : TS wr W5.heap.size v9 N
  cl : ∀ j, vc.ownBlock = some j → j < W5.heap.size
  s : W5.heap.size ≤ wr.heap.size
theorem Nmw.bel {W W5 wr X : World} {bk mA mG : Nat} {v : Value} {L : List Es} {vc : Value} {C : List ByteArray} {v9 : Value} {N : List ByteArray} {B : Nat} (h : Nmw W W5 wr bk mA mG v L vc C v9 N B) (b : Below wr.heap.size wr X) : Nmw W W5 X bk mA mG v L vc C v9 N B := by
  obtain ⟨A, hA⟩ := h.bk
  exact ⟨h.b.trans (b.mono h.b.size), ⟨A, hA.bel b⟩, row_bel' h.c b, row_bel' h.n b, h.cl, Nat.le_trans h.s b.size⟩
theorem Nmw.ask {W W5 wr X : World} {bk mA mG : Nat} {v : Value} {L : List Es} {vc : Value} {C : List ByteArray} {v9 : Value} {N : List ByteArray} {B : Nat} (h : Nmw W W5 wr bk mA mG v L vc C v9 N B) (hB : mA < B ∧ mG < B) (hB5 : B ≤ W5.heap.size) (b : Below W.heap.size W X) (hk : ∃ A, Bk X bk mA mG v L A) (hs : wr.heap.size ≤ X.heap.size) (fr : ∀ j, j < wr.heap.size → j ≠ mA → j ≠ mG → X.heap[j]? = wr.heap[j]?) : Nmw W W5 X bk mA mG v L vc C v9 N B :=
  ⟨b, hk, row_keepI h.c fun j hj => (by have := World.ownsRow.lt h.c j hj; exact fr j this.2 (by omega) (by omega)), row_keepI h.n fun j hj => (by have := World.ownsRow.lt h.n j hj; exact fr j this.2 (by omega) (by omega)), h.cl, Nat.le_trans h.s hs⟩
theorem Nmw.add {W W5 wr X : World} {bk mA mG : Nat} {v : Value} {L : List Es} {vc : Value} {C : List ByteArray} {v9 v9' : Value} {N N' : List ByteArray} {B : Nat} (h : Nmw W W5 wr bk mA mG v L vc C v9 N B) (hB5 : B ≤ W5.heap.size) (hW5 : W.heap.size ≤ W5.heap.size) (hlo : bk < W5.heap.size ∧ mA < W5.heap.size ∧ mG < W5.heap.size) (g : wr.grownBy X v9.ownBlock) (hn : TS X W5.heap.size v9' N') : Nmw W W5 X bk mA mG v L vc C v9' N' B := by
  have lo : ∀ j, v9.ownBlock = some j → W5.heap.size ≤ j := fun j hj => (World.ownsRow.lt h.n j hj).1
  have hs := h.s
  have fr : ∀ j, j < wr.heap.size → j < W5.heap.size → X.heap[j]? = wr.heap[j]? := fun j hj h5 => g.block j hj (fun e => by have := lo j e.symm; omega)
  obtain ⟨A, hA⟩ := h.bk
  exact ⟨h.b.trans ⟨g.os, g.tape, g.output, g.size, fun k hk => fr k (by have := h.b.size; omega) (by omega)⟩, ⟨A, hA.keep (fr _ (by omega) hlo.1) (fr _ (by omega) hlo.2.1) (fr _ (by omega) hlo.2.2)⟩, row_keepI h.c fun j hj => fr j (World.ownsRow.lt h.c j hj).2 (h.cl j hj), hn, h.cl, Nat.le_trans hs g.size⟩
set_option maxRecDepth 100000 in
set_option maxHeartbeats 16000000 in
theorem namesX_any {W : World} {v : Value} {L : List Es} (hv : MsAt W W.heap.size v L) (hL : L.length ≤ 1048576) (hE : ∀ e ∈ L, e.own.length ≤ 1048576 ∧ e.oth.length ≤ 1048576 ∧ e.st.length ≤ 1048576) (hN : ∀ e ∈ L, ∀ x ∈ nmsE e, x.size ≤ 1048576) (hU : ∀ n, (Uni L (Nms L n)).length ≤ 274877906944) (mod : Int) :
    Calls Tryz.prog 18 #[v, .int .i64 mod] W fun e w' => ∃ vr, e = .returned vr ∧ TS w' W.heap.size vr (namL L mod) ∧ Below W.heap.size W w' := by
  have C1 := newBook_any (W := W) (v := v) L (by obtain ⟨ad, c, e⟩ := hv.op; exact ⟨ad, _, c, e⟩)
  have hE2 : ∀ e ∈ L, e.own.length ≤ 1048576 ∧ e.oth.length ≤ 1048576 := fun e he => ⟨(hE e he).1, (hE e he).2.1⟩
  obtain ⟨i0, hi0, hz0, hz1, hz2⟩ := info_parts info_st
  obtain ⟨va, vcp, rfl⟩ := hv.op
  have HV : Hid _ := hv
  have HE : Hid _ := hE
  have HN : Hid _ := hN
  have HU : Hid _ := hU
  clear hv hE hN hU
  go_enter Tryz.func18, Tryz.ntmps18
  go_wp2_with fail
  go_at_call 32
  refine C1.mono ?_
  rintro ex W1 ⟨bk, mA, mG, rfl, hB, b1, lb, lA, lG⟩
  obtain ⟨q1, q2, q3⟩ := hB.lt
  have hv1 : MsAt W1 W1.heap.size (.slice va L.length vcp) L := (HV.out.bel b1).mono b1.size
  have C2 := starred_any hB.blk hv1 hL (fun e he => (HE.out e he).2.2) mod
  go_wp2_with fail
  go_at_call 36
  refine C2.mono ?_
  rintro ex W2 ⟨vs, rfl, hTI, hSl, b2⟩
  have s1 := b1.size
  have s2 := b2.size
  obtain ⟨sa, sc, rfl⟩ := TI.form hTI
  have HB2 : Hid (Bk W2 bk mA mG (.slice va L.length vcp) L (fun _ => none)) := hB.bel b2
  have HSn : Hid (starL L mod = starL L mod) := rfl
  have hSL : (starL L mod).length ≤ 1048576 := by
    have := nodup_star L mod
    have := nd_len this
    omega
  have HC : Hid (candL L mod = unB (Lib.compact (srt (givL L (starL L mod))))) := rfl
  have HNL : Hid (namL L mod = (candL L mod).filter fun n => leads (rsv L (mod, n))) := rfl
  have HCM : Hid (∀ x ∈ candL L mod, ∃ e ∈ L, x ∈ nmsE e) := fun x hx => cand_mem hx
  have HGL := giv_len hE2 (starL L mod)
  generalize candL L mod = CL at *
  generalize starL L mod = SL at *
  have HTI : Hid _ := hTI
  have HB1 : Hid _ := b1
  have HB2' : Hid _ := b2
  have HM2 : Hid (∀ X, Below W2.heap.size W2 X → X.heap[bk]? = some (.cells #[.slice va L.length vcp, .map (some mA), .map (some mG)] 106 (0, 0)) ∧ MsAt X X.heap.size (.slice va L.length vcp) L ∧ Below W.heap.size W X) := fun X bX => by
    have bWX : Below W.heap.size W X := b1.trans ((b2.mono s1).trans (bX.mono (by omega)))
    exact ⟨(bX.block _ (by omega)).trans HB2.out.blk, (HV.out.bel bWX).mono bWX.size, bWX⟩
  have HGK : Hid (∀ k (hk : k < SL.length), givL L (SL.take (k + 1)) = givL L (SL.take k) ++ (((L[SL[k]]?).map nmsE).getD [])) := fun k hk => by
    unfold givL
    rw [List.take_succ_eq_append_getElem hk, List.flatMap_append]
    simp
  have HGLk : Hid (∀ k, (givL L (SL.take k)).length ≤ 2199023255552) := fun k => by
    have := giv_len hE2 (SL.take k)
    have h2 : (SL.take k).length ≤ 1048576 := by simp; omega
    omega
  clear C1 C2 hB hv1 hTI b1 b2 hE2
  go_wp2
  go_loopw [6, 18] (fun v6 v18 wr => ∃ k : Nat, v18 = .int .i64 (k : Nat) ∧ k ≤ SL.length ∧ TS wr W2.heap.size v6 (givL L (SL.take k)) ∧ Below W2.heap.size W2 wr) (fun _ v18 _ => SL.length - (intOf v18).toNat)
  case atStart => exact ⟨0, rfl, by omega, by rw [List.take_zero]; exact TS.nil _ _, Below.refl _ _⟩
  case round =>
    obtain ⟨k, rfl, hk, hT, hB⟩ := hrel
    have hsz := hB.size
    by_cases hlt : k < SL.length
    · have hml := hSl _ (List.getElem_mem hlt)
      obtain ⟨g, c, e', hg1, hg2, ck⟩ := TI.at HTI.out hlt
      simp only [Value.slice.injEq] at e'
      obtain ⟨rfl, _, rfl⟩ := e'
      have ck' := (World.cell?_of_block (a := ⟨g, k, none⟩) (hB.block g hg2)).trans ck
      have hgk := HGK.out k hlt
      rw [List.getElem?_eq_getElem hml] at hgk
      simp only [Option.map_some, Option.getD_some] at hgk
      have HGk : Hid _ := hgk
      obtain ⟨x1, x2, x3⟩ := HM2.out _ hB
      have hee := HE.out L[SL[k]] (List.getElem_mem hml)
      have CN := bnames_any x1 x2 hL hml hee.1 hee.2.1
      have hltI : ((k : Nat) : Int) < ((SL.length : Nat) : Int) := by omega
      have hb1 := HGLk.out k
      have hb2 : (nmsE L[SL[k]]).length ≤ 2097152 := by simp [nmsE]; omega
      generalize nmsE L[SL[k]] = NE at *
      generalize SL[k] = mk at *
      generalize givL L (SL.take k) = GK at *
      have HT : Hid _ := hT
      clear hgk x1 x2 hT
      go_wp2_with fail
      go_at_call 37
      refine CN.mono ?_
      rintro ex W3 ⟨vn, rfl, hTn, b3⟩
      have hT3 := row_bel' HT.out b3
      have hB3 := hB.trans (b3.mono hsz)
      have hlow : ∀ j, Value.ownBlock _ = some j → W2.heap.size ≤ j := fun j hj => (World.ownsRow.lt HT.out j hj).1
      have HLO : Hid _ := hlow
      have hs3 := hB3.size
      clear hlow b3
      go_wp2_with (at_builtin; refine wpList_appS _ (by rfl) _ _ (by rfl) W2.heap.size _ GK (by rfl) hT3 wr.heap.size _ NE (by rfl) hTn (by omega) hs3 ?_; intro v' W4 hT4 hg4 ho4)
      have hB4 := grow_below hg4 hB3 HLO.out
      go_roundw
      case rel => exact ⟨k + 1, by simp, by omega, by rw [HGk.out]; exact hT4, hB4⟩
      case measure => simp [intOf]; omega
    · obtain rfl : k = SL.length := by omega
      have hge : ¬ ((SL.length : Nat) : Int) < ((SL.length : Nat) : Int) := by omega
      rw [List.take_length] at hT
      have CS := sort_any hT (by have := HGLk.out SL.length; rw [List.take_length] at this; omega)
      have hlow : ∀ j, Value.ownBlock _ = some j → W2.heap.size ≤ j := fun j hj => (World.ownsRow.lt hT j hj).1
      have hGl := HGLk.out SL.length
      rw [List.take_length] at hGl
      obtain ⟨ga, gc, rfl⟩ := TS.form hT
      clear hT
      go_wp2_with fail
      go_at_call 38
      refine CS.mono ?_
      rintro ex W4 ⟨rfl, hT4, hg4⟩
      have hB4 := grow_below hg4 hB hlow
      have CC := compact_any hT4 (by rw [srt_len]; omega)
      go_wp2_with fail
      go_at_call 39
      refine CC.mono ?_
      rintro ex W5 ⟨vc, rfl, hT5, hg5, ho5⟩
      have hB5 := grow_below hg5 hB4 hlow
      rw [← HC.out] at hT5
      have s5 := hB5.size
      have HNM : Hid (Nmw W W5 W5 bk mA mG (.slice va L.length vcp) L vc CL (.slice none 0 0) [] W2.heap.size) := ⟨(HM2.out _ hB5).2.2, ⟨_, HB2.out.keep (hB5.block _ (by omega)) (hB5.block _ (by omega)) (hB5.block _ (by omega))⟩, hT5, TS.nil _ _, fun j hj => (World.ownsRow.lt hT5 j hj).2, Nat.le_refl _⟩
      have hCL : CL.length ≤ 2199023255552 := by
        rw [HC.out, un_len]
        have := cpt_len (srt (givL L SL))
        rw [srt_len] at this
        omega
      have hWle : W.heap.size ≤ W5.heap.size := by omega
      have h2le : W2.heap.size ≤ W5.heap.size := s5
      obtain ⟨cva, cvc, rfl⟩ := TS.form hT5
      clear CS CC hT4 hg4 hT5 hg5 hB4 hlow hB hge
      go_wp2
      go_loopw [9, 33] (fun v9 v33 wr => ∃ k : Nat, v33 = .int .i64 (k : Nat) ∧ k ≤ CL.length ∧ Nmw W W5 wr bk mA mG (.slice va L.length vcp) L (.slice cva CL.length cvc) CL v9 ((CL.take k).filter fun n => leads (rsv L (mod, n))) W2.heap.size) (fun _ v33 _ => CL.length - (intOf v33).toNat)
      case atStart => exact ⟨0, rfl, by omega, by rw [List.take_zero]; exact HNM.out⟩
      case round =>
        obtain ⟨k, rfl, hk, hS⟩ := hrel
        by_cases hlt : k < CL.length
        · obtain ⟨g, c, e', hg1, hg2, ck⟩ := TS.at hS.c hlt
          simp only [Value.slice.injEq] at e'
          obtain ⟨rfl, _, rfl⟩ := e'
          have hltI : ((k : Nat) : Int) < ((CL.length : Nat) : Int) := by omega
          have hnm : CL[k].size ≤ 1048576 := by
            obtain ⟨e, he, hx⟩ := HCM.out _ (List.getElem_mem hlt)
            exact HN.out e he _ hx
          have HF : Hid ((CL.take (k + 1)).filter (fun n => leads (rsv L (mod, n))) = (CL.take k).filter (fun n => leads (rsv L (mod, n))) ++ (if leads (rsv L (mod, CL[k])) then [CL[k]] else [])) := by
            show _ = _
            rw [List.take_succ_eq_append_getElem hlt, List.filter_append]
            congr 1
            simp [List.filter_cons]
          have hfl : ((CL.take k).filter (fun n => leads (rsv L (mod, n)))).length ≤ 2199023255552 := Nat.le_trans (List.length_filter_le _ _) (by simp; omega)
          obtain ⟨A, hAB⟩ := hS.bk
          have CR := resolve_any HV.out hS.b hAB lb lA lG hL HE.out (mod, CL[k]) (HU.out _)
          generalize (CL.take k).filter (fun n => leads (rsv L (mod, n))) = FK at *
          generalize CL[k] = nm at *
          have HS : Hid _ := hS
          clear hAB hS
          go_wp2_with fail
          go_at_call 33
          refine CR.mono ?_
          rintro ex W6 ⟨rfl, hk6, b6, fr6⟩
          have hs6 : wr.heap.size ≤ W6.heap.size := by
            obtain ⟨A6, hA6⟩ := hk6
            obtain ⟨_, y2, y3⟩ := hA6.lt
            by_cases h0 : wr.heap.size = 0
            · omega
            · by_cases e1 : wr.heap.size - 1 = mA
              · omega
              · by_cases e2 : wr.heap.size - 1 = mG
                · omega
                · have e3 := fr6 (wr.heap.size - 1) (by omega) e1 e2
                  rw [Array.getElem?_eq_getElem (xs := wr.heap) (by omega)] at e3
                  have := (Array.getElem?_eq_some_iff.1 e3).1
                  omega
          have n6 := HS.out.ask ⟨by omega, by omega⟩ h2le b6 hk6 hs6 fr6
          have HR : Hid (rsv L (mod, nm) = rsv L (mod, nm)) := rfl
          have CLd := leads_any W6 (rsv L (mod, nm))
          cases hld : leads (rsv L (mod, nm)) with
          | false =>
            rw [hld] at CLd HF
            generalize rsv L (mod, nm) = rv at *
            have HN6 : Hid _ := n6
            clear n6 fr6 hk6 b6
            go_wp2_with fail
            go_at_call 40
            refine CLd.mono ?_
            rintro ex W7 ⟨rfl, b7⟩
            have n7 := HN6.out.bel b7
            go_wp2
            go_roundw
            case rel => exact ⟨k + 1, by simp, by omega, by rw [HF.out]; simpa using n7⟩
            case measure => simp [intOf]; omega
          | true =>
            rw [hld] at CLd HF
            generalize rsv L (mod, nm) = rv at *
            have HN6 : Hid _ := n6
            clear n6 fr6 hk6 b6
            go_wp2_with fail
            go_at_call 40
            refine CLd.mono ?_
            rintro ex W7 ⟨rfl, b7⟩
            have n7 := HN6.out.bel b7
            go_wp2_with fail
            go_at_call 34
            refine (cloneX_any nm _ (by omega)).mono ?_
            rintro ex W8 ⟨rfl, b8⟩
            have n8 := n7.bel b8
            have n9 := n8.bel ((Below.refl _ _).alloc (Nat.le_refl _) (.cells #[.string nm] 9))
            have hT9 := n9.n
            have s8 := n8.s
            obtain ⟨fa, fc, rfl⟩ := TS.form hT9
            have H9 : Hid _ := n9
            clear n7 n8 n9 b7 b8
            go_wp2_with (at_builtin; refine wpList_append_lies _ (by rfl) _ _ _ (by rfl) W5.heap.size 9 i0 _ 1 16 under_strs hi0 hz0 hz1 hz2 rfl (by omega) _ FK.length (FK.map .string) (by rfl) hT9 ⟨W8.heap.size, 0, none⟩ 1 1 [.string nm] (by rfl) (by rfl) (World.news_of_block (cs := #[.string nm]) (t := 9) (fr := (0, 0)) (hnewX _ rfl)) (by simp [Value.oneCell']) (by omega) (by unfold maxLen; omega) (by omega) (by simp; omega) (W8.heap.size + 1) (by simp) ?_; intro gg cap W9 hown hgrow hat hlt9)
            have n10 := H9.out.add h2le hWle ⟨by omega, by omega, by omega⟩ hgrow (TS.add hown)
            go_roundw
            case rel => exact ⟨k + 1, by simp, by omega, by rw [HF.out]; simpa using n10⟩
            case measure => simp [intOf]; omega
        · obtain rfl : k = CL.length := by omega
          rw [List.take_length, ← HNL.out] at hS
          have hge : ¬ ((CL.length : Nat) : Int) < ((CL.length : Nat) : Int) := by omega
          have HT : Hid (TS wr W.heap.size _ (namL L mod)) := row_baseI hS.n hWle
          have HBw : Hid _ := hS.b
          clear hS
          go_wp2
          go_ret
          exact ⟨_, rfl, HT.out, HBw.out⟩
end Go.Proofs.YtadkmlcnmkdfiaaGreatDoor
