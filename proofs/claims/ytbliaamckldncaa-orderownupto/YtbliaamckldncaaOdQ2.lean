/- Own text. Edges turned round: the program's turned. -/
import Derived.Test.YtbliaamckldncaaOdQ
namespace Go.Proofs.Ytbliaamckldncaa
open Go.RowKit Gph
set_option linter.unusedVariables false
set_option linter.unusedSimpArgs false

def nil1 (n : Nat) : Array Value := madeCells (Value.slice none 0 0).cells n
theorem make_is (n : Nat) (hn : n ≤ 4194304) (W : World) : (Instr.makeSlice 22 (.int .i64 (n : Nat)) (.int .i64 (n : Nat))).run Try.prog W = .ok (.slice (some ⟨W.heap.size, 0, none⟩) n n) (W.alloc (.cells (nil1 n) 31)) := by
  obtain ⟨i0, hi0, hz0, hz1, hz2⟩ := info_parts info_is
  have h := run_make (P := Try.prog) W 22 31 i0 (.slice none 0 0) Try.underlying22 hi0 hz0 .i64 .i64 n n (by omega) (by omega) (by rw [hz2]; omega) (by omega)
  rw [hz1] at h
  simpa [nil1] using h
theorem PPa.made {w : World} {lo n : Nat} (hb : lo ≤ w.heap.size) (hn : n ≤ 4194304) : PPa (w.alloc (.cells (nil1 n) 31)) lo (.slice (some ⟨w.heap.size, 0, none⟩) n n) (List.replicate n []) (List.replicate n (.slice none 0 0)) := by
  have h := World.ownsRow_lit (base := lo) (e := 31) (size := 1) w (nil1 n) n hb (by unfold maxLen; omega) (by unfold nil1; rw [size_madeCells]; omega)
  have e : (nil1 n).toList = List.replicate n (.slice none 0 0) := toList_madeCells_one _ _
  rw [e] at h
  have hc : ∀ (j : Nat) u, (List.replicate n (Value.slice none 0 0))[j]? = some u → u = .slice none 0 0 := fun j u hu => by
    rw [List.getElem?_replicate] at hu
    split at hu
    · cases hu; rfl
    · cases hu
  refine ⟨by rw [List.length_replicate]; exact h, fun j hj => ⟨.slice none 0 0, ?_, ?_⟩, fun j u b hu hb => ?_, fun i j u u' b hij hu hu' hb => ?_⟩
  · rw [List.getElem?_replicate, if_pos (by simpa using hj)]
  · rw [List.getElem_replicate]; exact World.ownsRow_nil _ _ _ _
  · rw [hc j u hu] at hb; cases hb
  · rw [hc i u hu] at hb; cases hb
theorem PPa.at {w : World} {lo g n cap : Nat} {P : List (List Nat)} {cs : List Value} (h : PPa w lo (.slice (some ⟨g, 0, none⟩) n cap) P cs) {j : Nat} (hj : j < P.length) : ∃ u, cs[j]? = some u ∧ w.cell? ⟨g, j, none⟩ = some u ∧ w.frozen? ⟨g, j, none⟩ = false ∧ Tl w lo u P[j] := by
  have hnP : n = P.length := by
    rcases h.row.2 with ⟨e, _⟩ | ⟨_, _, _, e, _⟩
    · cases e
    · cases e; rfl
  subst hnP
  obtain ⟨u, q1, q2⟩ := h.tl j hj
  exact ⟨u, q1, by rw [World.ownsRow.cellAt h.row j (by omega)]; exact q1, World.ownsRow.frozenAt h.row j, q2⟩
set_option maxRecDepth 100000 in
set_option maxHeartbeats 4000000 in
theorem turned_any {G : List (List Nat)} (hG : Ok G) (hn : G.length ≤ 1048576) (hk : ∀ x, (ed G x).length ≤ 1048576) {B : Nat} {v : Value} {w : World} (hE : EAt w B v (toI G)) (hB : B ≤ w.heap.size) :
    Calls Try.prog 27 #[v] w fun e w' => ∃ vo R cs, e = .returned vo ∧ PPa w' w.heap.size vo R cs ∧ Turn G R ∧ (∀ y, (ed R y).length ≤ 1099511627776) ∧ Below w.heap.size w w' := by
  obtain ⟨i0, hi, hz0, hz1, hz2⟩ := info_parts info_int
  obtain ⟨ad, c, e0⟩ := hE.op
  rw [toI_len] at e0
  subst e0
  have hmk := fun W => make_is G.length (by omega) W
  have HI : Hid (∀ W, Below w.heap.size w W → ∀ x, x < G.length → ∃ b o, ad = some ⟨b, o, none⟩ ∧ ∃ ad c', W.cell? ⟨b, o + x, none⟩ = some (.slice ad (ed G x).length c') ∧ (∀ m (h : m < (ed G x).length), ∃ b' o', ad = some ⟨b', o', none⟩ ∧ ∀ W', Below w.heap.size w W' → W'.cell? ⟨b', o' + m, none⟩ = some (.int .i64 ((ed G x)[m] : Nat)))) := fun W bl x hx => by
    obtain ⟨b, o, c2, fv, e, hb, hf⟩ := hE.gl (by omega)
    cases e
    obtain ⟨f1, f2⟩ := hf x hx
    obtain ⟨⟨ad, c', e'⟩, hcl⟩ := f2.nl
    rw [e'] at f1 hcl
    refine ⟨b, o, rfl, ad, c', (World.cell?_of_block (a := ⟨b, o + x, none⟩) ((bl.mono hB).block b hb)).trans f1, fun m hm => ?_⟩
    obtain ⟨b', o', c2, e2, hb', hc'⟩ := hcl (by omega)
    cases e2
    exact ⟨b', o', rfl, fun W' bl' => (World.cell?_of_block (a := ⟨b', o' + m, none⟩) ((bl'.mono hB).block b' hb')).trans (hc' m hm)⟩
  have p0 := PPa.made (w := w) (lo := w.heap.size) (n := G.length) (Nat.le_refl _) (by omega)
  have b0 := (Below.refl w.heap.size w).alloc (Nat.le_refl _) (.cells (nil1 G.length) 31)
  have ht0 := Tp.start G
  clear hE
  go_enter Try.func27, Try.ntmps27
  go_wp2
  obtain ⟨W0, hW0⟩ : ∃ W, w.alloc (.cells (nil1 G.length) 31) = W := ⟨_, rfl⟩
  rw [hW0] at p0 b0 ⊢
  have HT0 : Hid (Tp G (List.replicate G.length []) 0 0) := ht0
  clear hW0 hmk ht0
  go_loopw [4, 5, 13] (fun iv rv kv wr => ∃ (k : Nat) (R : List (List Nat)) (cs : List Value), kv = .int .i64 (k : Nat) ∧ k ≤ G.length ∧ Below w.heap.size w wr ∧ PPa wr w.heap.size (.slice (some ⟨w.heap.size, 0, none⟩) G.length G.length) R cs ∧ Hid (Tp G R k 0)) (fun _ _ kv _ => G.length - (intOf kv).toNat)
  case atStart => exact ⟨0, _, _, rfl, by omega, b0, p0, HT0⟩
  case round =>
    clear p0 b0 HT0
    obtain ⟨k, R, cs, rfl, hkn, bel, hP, HT⟩ := hrel
    by_cases hlt : k < G.length
    · obtain ⟨b, o, rfl, ad', c', f1, f2⟩ := HI.out _ bel k hlt
      have HF : Hid _ := f2
      have hkk := hk k
      clear f2
      go_wp2
      go_loopw [7, 20] (fun tv jv wq => ∃ (m : Nat) (R : List (List Nat)) (cs : List Value), jv = .int .i64 (m : Nat) ∧ m ≤ (ed G k).length ∧ Below w.heap.size w wq ∧ PPa wq w.heap.size (.slice (some ⟨w.heap.size, 0, none⟩) G.length G.length) R cs ∧ Hid (Tp G R k m)) (fun _ jv _ => (ed G k).length - (intOf jv).toNat)
      case atStart => exact ⟨0, _, _, rfl, by omega, bel, hP, HT⟩
      case round =>
        clear bel hP HT f1 cs R
        obtain ⟨m, R, cs, rfl, hml, bel, hP, HT⟩ := hrel
        by_cases hmt : m < (ed G k).length
        · obtain ⟨b', o', rfl, g3⟩ := HF.out m hmt
          have g4 := g3 _ bel
          have hy : (ed G k)[m] < G.length := hG _ _ (List.getElem_mem hmt)
          have HS : Hid (Tp G (R.set (ed G k)[m] (ed R (ed G k)[m] ++ [k])) k (m + 1)) := HT.out.step hmt hy
          have hRl := HT.out.len
          have hbd := HT.out.bd (ed G k)[m]
          generalize (ed G k)[m] = y at *
          have hyR : y < R.length := by omega
          have hed : ed R y = R[y] := ed_eq hyR
          rw [hed] at HS hbd
          obtain ⟨u, q1, q2, q3, q4⟩ := hP.at hyR
          have hkm : k * 1048576 ≤ 1048576 * 1048576 := Nat.mul_le_mul_right _ (by omega)
          have hlen : R[y].length ≤ 1099511627776 + 1048576 := by omega
          have hsz := bel.size
          have fin : ∀ (W3 : World) (gg cap : Nat), W3.ownsRow w.heap.size 3 1 (.slice (some ⟨gg, 0, none⟩) (R[y].length + 1) cap) (R[y].length + 1) (ints (nI R[y]) ++ [.int .i64 (k : Nat)]) → (wr.alloc (.cells #[.int .i64 (k : Nat)] 3)).grownBy W3 u.ownBlock → (u.ownBlock = some gg ∨ gg = wr.heap.size + 1) → gg < W3.heap.size →
              (∃ v, W3.cell? ⟨w.heap.size, y, none⟩ = some v) ∧ W3.frozen? ⟨w.heap.size, y, none⟩ = false ∧ PPa (W3.setCell ⟨w.heap.size, y, none⟩ (.slice (some ⟨gg, 0, none⟩) (R[y].length + 1) cap)) w.heap.size (.slice (some ⟨w.heap.size, 0, none⟩) G.length G.length) (R.set y (R[y] ++ [k])) (cs.set y (.slice (some ⟨gg, 0, none⟩) (R[y].length + 1) cap)) ∧ Below w.heap.size w (W3.setCell ⟨w.heap.size, y, none⟩ (.slice (some ⟨gg, 0, none⟩) (R[y].length + 1) cap)) := fun W3 gg cap r1 r2 r3 r4 => by
            have ha : PPa (wr.alloc (.cells #[.int .i64 (k : Nat)] 3)) w.heap.size (.slice (some ⟨w.heap.size, 0, none⟩) G.length G.length) R cs := hP.keep fun b _ hb => Below.heap_alloc wr _ b hb
            have hne : some w.heap.size ≠ u.ownBlock := fun e => hP.no y u _ q1 e.symm rfl
            have hrow' := World.ownsRow.kept ha.row r2 (Or.inr hne)
            rw [hRl] at hrow'
            have hcl := hP.cl
            refine ⟨⟨u, ?_⟩, World.ownsRow.frozenAt hrow' y, ha.put hyR q1 (by show (wr.alloc _).heap.size = _; simp) r1 r2 r3 r4, ?_⟩
            · rw [World.ownsRow.cellAt hrow' y (by omega)]; exact q1
            · exact ((bel.alloc hsz _).grown r2 (by show w.heap.size ≤ (wr.alloc _).heap.size; simp; omega) (fun j hj => (World.ownsRow.lt q4 j hj).1)).setCell (Nat.le_refl _) _
          have hFi : Hid _ := fin
          have ho1 := (World.ownsRow.alloc q4 (.cells #[.int .i64 (k : Nat)] 3))
          have ca : ∀ o, (wr.alloc o).cell? ⟨w.heap.size, y, none⟩ = some u := fun o => (World.cell?_of_block (a := ⟨w.heap.size, y, none⟩) (Below.heap_alloc wr o _ (World.ownsRow.lt hP.row _ rfl).2)).trans q2
          clear fin HT g3 hbd hkm hed
          go_wp2_with (at_builtin; refine wpList_append_lies _ rfl _ _ 31 rfl w.heap.size 3 i0 (.int .i64 0) 1 8 Try.underlying31 hi hz0 hz1 hz2 rfl (by decide) _ R[y].length (ints (nI R[y])) rfl ho1 ⟨_, 0, none⟩ 1 1 [.int .i64 (k : Nat)] rfl rfl (cell_one_new _ _ _) (fun x hx => by simp at hx; subst hx; rfl) (by omega) (by unfold maxLen; omega) (by omega) (by simp; omega) (wr.heap.size + 1) (by simp) ?_; intro gg cap W3 r1 r2 r3 r4; obtain ⟨⟨u4, k1⟩, k2, k3, k4⟩ := hFi.out W3 gg cap r1 r2 r3 r4)
          all_goals
            clear q1 q2 q3 q4 ho1 ca hFi r1 r2 r3 r4 hP
            go_wp2
            go_roundw
            case rel => exact ⟨m + 1, _, _, by simp, by omega, k4, k3, HS⟩
            case measure => simp [intOf]; omega
        · have HR : Hid (Tp G R (k + 1) 0) := HT.out.row (m := m) (by omega) (by omega)
          clear HT
          go_wp2
          go_roundw
          case rel => exact ⟨k + 1, R, cs, by simp, by omega, bel, hP, HR⟩
          case measure => simp [intOf]; omega
    · have HR : Hid (Turn G R ∧ ∀ y, (ed R y).length ≤ 1099511627776) := ⟨HT.out.turn (by omega), fun y => by
        have h1 := HT.out.bd y
        have h2 : k * 1048576 ≤ 1048576 * 1048576 := Nat.mul_le_mul_right _ (by omega)
        omega⟩
      clear HT
      go_wp2
      go_ret
      exact ⟨_, R, cs, rfl, hP, HR.out.1, HR.out.2, bel⟩
end Go.Proofs.Ytbliaamckldncaa
