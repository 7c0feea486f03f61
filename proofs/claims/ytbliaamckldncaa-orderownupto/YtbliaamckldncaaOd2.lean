/- Own text. A graph and flags in memory; the document's walk and Order. -/
import Derived.Test.YtbliaamckldncaaOd1
import Derived.Laws.OwnMore
import Derived.Laws.AppendOwn
import Derived.Laws.MakeOwn
namespace Go.Proofs.Ytbliaamckldncaa
open Go.RowKit Gph
set_option linter.unusedVariables false

/-- places as numbers. -/
def nI (l : List Nat) : List Int := l.map fun (x : Nat) => (x : Int)
theorem nI_len (l : List Nat) : (nI l).length = l.length := by simp [nI]
theorem nI_app (a b : List Nat) : nI (a ++ b) = nI a ++ nI b := by simp [nI]
def toI (G : List (List Nat)) : List (List Int) := G.map nI
theorem toI_len (G : List (List Nat)) : (toI G).length = G.length := by simp [toI]
theorem ed_eq {G : List (List Nat)} {x : Nat} (h : x < G.length) : ed G x = G[x] := by unfold ed; rw [List.getElem?_eq_getElem h]; rfl
/-- edges that Check lets pass. -/
def nE (E : List (List Int)) : List (List Nat) := E.map fun l => l.map Int.toNat
theorem nE_len (E : List (List Int)) : (nE E).length = E.length := by simp [nE]
theorem graph_of {E : List (List Int)} (h : chk E = true) : E = toI (nE E) ∧ Ok (nE E) := by
  have hE : ∀ l ∈ E, ∀ y ∈ l, 0 ≤ y ∧ y < E.length := fun l hl y hy => by
    have := List.all_eq_true.1 (List.all_eq_true.1 h l hl) y hy
    simpa using this
  refine ⟨?_, fun x y hy => ?_⟩
  · unfold toI nI nE
    rw [List.map_map]
    conv => lhs; rw [← List.map_id E]
    refine List.map_congr_left fun l hl => ?_
    simp only [Function.comp, List.map_map, id]
    conv => lhs; rw [← List.map_id l]
    refine List.map_congr_left fun y hy => ?_
    have := hE l hl y hy
    simp only [Function.comp, id]
    omega
  · unfold ed nE at hy
    cases h : (E.map fun l => l.map Int.toNat)[x]? with
    | none => rw [h] at hy; simp at hy
    | some l =>
      rw [h] at hy
      obtain ⟨l', hl', rfl⟩ := List.mem_map.1 (List.mem_of_getElem? h)
      obtain ⟨z, hz, rfl⟩ := List.mem_map.1 hy
      have := hE l' hl' z hz
      rw [nE_len]
      omega
theorem graph_chk {G : List (List Nat)} (h : Ok G) : chk (toI G) = true := by
  unfold chk
  refine List.all_eq_true.2 fun l hl => List.all_eq_true.2 fun y hy => ?_
  obtain ⟨l', hl', rfl⟩ := List.mem_map.1 hl
  obtain ⟨z, hz, rfl⟩ := List.mem_map.1 hy
  obtain ⟨i, hi, rfl⟩ := List.getElem_of_mem hl'
  have := h i z (by rw [ed_eq hi]; exact hz)
  rw [toI_len]
  simp
  omega
/-- a graph's lists. -/
theorem EAt.gl {w : World} {B : Nat} {v : Value} {G : List (List Nat)} (h : EAt w B v (toI G)) (h0 : 0 < G.length) : ∃ (b o c : Nat) (f : Nat → Value), v = .slice (some ⟨b, o, none⟩) G.length c ∧ b < B ∧ ∀ x, x < G.length → w.cell? ⟨b, o + x, none⟩ = some (f x) ∧ IAt w B (f x) (nI (ed G x)) := by
  obtain ⟨b, o, c, f, e, hb, hf⟩ := h.cl (by rw [toI_len]; exact h0)
  refine ⟨b, o, c, f, by rw [e, toI_len], hb, fun x hx => ?_⟩
  obtain ⟨h1, h2⟩ := hf x (by rw [toI_len]; exact hx)
  refine ⟨h1, ?_⟩
  rw [ed_eq hx]
  simpa [toI] using h2
theorem IAt.nl {w : World} {B : Nat} {v : Value} {l : List Nat} (h : IAt w B v (nI l)) : (∃ ad c, v = .slice ad l.length c) ∧ (0 < l.length → ∃ b o c, v = .slice (some ⟨b, o, none⟩) l.length c ∧ b < B ∧ ∀ i (h : i < l.length), w.cell? ⟨b, o + i, none⟩ = some (.int .i64 (l[i] : Nat))) := by
  refine ⟨?_, fun h0 => ?_⟩
  · obtain ⟨ad, c, e⟩ := h.op; exact ⟨ad, c, by rw [e, nI_len]⟩
  · obtain ⟨b, o, c, e, hb, hc⟩ := h.cl (by rw [nI_len]; exact h0)
    exact ⟨b, o, c, by rw [e, nI_len], hb, fun i hi => by rw [hc i (by rw [nI_len]; exact hi)]; simp [nI]⟩
def bools (S : List Bool) : List Value := S.map .bool
/-- flags in a block. -/
abbrev Fl (w : World) (base g n : Nat) (S : List Bool) : Prop := w.ownsRow base 4 1 (.slice (some ⟨g, 0, none⟩) n n) n (bools S)
theorem Fl.len {w : World} {base g n : Nat} {S : List Bool} (h : Fl w base g n S) : S.length = n := by have := h.1; simpa [bools] using this
theorem Fl.lt {w : World} {base g n : Nat} {S : List Bool} (h : Fl w base g n S) : base ≤ g ∧ g < w.heap.size := World.ownsRow.lt h g rfl
theorem Fl.at {w : World} {base g n : Nat} {S : List Bool} (h : Fl w base g n S) {y : Nat} (hy : y < n) : w.cell? ⟨g, y, none⟩ = some (.bool (isOn S y)) ∧ w.frozen? ⟨g, y, none⟩ = false := by
  have hl := h.len
  refine ⟨?_, World.ownsRow.frozenAt h y⟩
  rw [World.ownsRow.cellAt h y (by omega)]
  unfold bools isOn
  rw [List.getElem?_map, List.getElem?_eq_getElem (by omega)]
  rfl
theorem Fl.put {w : World} {base g n : Nat} {S : List Bool} (h : Fl w base g n S) (y : Nat) : Fl (w.setCell ⟨g, y, none⟩ (.bool true)) base g n (S.set y true) ∧ w.grownBy (w.setCell ⟨g, y, none⟩ (.bool true)) (some g) := by
  obtain ⟨h1, h2⟩ := World.ownsRow.stored h y (.bool true)
  refine ⟨?_, h2⟩
  unfold Fl bools
  rw [List.map_set]
  exact h1
theorem info_int : (Try.prog.info? 3).map (fun i => (i.zero, i.size, i.bytes)) = some (some (.int .i64 0), 1, 8) := by kernel_rfl
theorem info_bool : (Try.prog.info? 4).map (fun i => (i.zero, i.size, i.bytes)) = some (some (.bool false), 1, 1) := by kernel_rfl
/-- told numbers, in a row of their own. -/
abbrev Tl (w : World) (base : Nat) (v : Value) (O : List Nat) : Prop := w.ownsRow base 3 1 v O.length (ints (nI O))
theorem Tl.add {w : World} {base : Nat} {v : Value} {O : List Nat} {x : Nat} (h : w.ownsRow base 3 1 v (O.length + 1) (ints (nI O) ++ [.int .i64 (x : Nat)])) : Tl w base v (O ++ [x]) := by
  unfold Tl
  rw [List.length_append, nI_app]
  simpa [ints, nI] using h

set_option maxRecDepth 100000 in
set_option maxHeartbeats 8000000 in
theorem rwalk_any {G : List (List Nat)} (hG : Ok G) (hn : G.length ≤ 4194304) (hk : ∀ x, (ed G x).length ≤ 4194304) {B : Nat} {v : Value} : ∀ (f : Nat) (w : World) (x : Nat) (S : List Bool) (O : List Nat) (vo : Value) (g : Nat), EAt w B v (toI G) → Fl w B g G.length S → Tl w (g + 1) vo O → x < G.length → ¬ on S x → off S ≤ f → O.length + off S ≤ G.length →
    Calls Try.prog 26 #[v, .int .i64 (x : Nat), .slice (some ⟨g, 0, none⟩) G.length G.length, vo] w fun e w' => ∃ vo', e = .returned vo' ∧ Fl w' B g G.length (dfs G f x S O).1 ∧ Tl w' (g + 1) vo' (dfs G f x S O).2 ∧ Below B w w' := by
  intro f
  induction f with
  | zero =>
    intro w x S O vo g hE hF hT hx hon hof _
    have := off_set (S := S) (x := x) (by rw [hF.len]; exact hx) hon
    omega
  | succ f ih =>
    intro w x S O vo g hE hF hT hx hon hof hO
    obtain ⟨i0, hi, hz0, hz1, hz2⟩ := info_parts info_int
    obtain ⟨b, o, c, fv, rfl, hb, hf⟩ := hE.gl (by omega)
    obtain ⟨f1, f2⟩ := hf x hx
    obtain ⟨⟨ad, c', e'⟩, hcl⟩ := f2.nl
    rw [e'] at f1 hcl
    obtain ⟨s1, s2⟩ := hF.at hx
    obtain ⟨hF0, gr0⟩ := hF.put x
    obtain ⟨hBg, hgl⟩ := hF.lt
    have hSl := hF.len
    have hx0 := off_set (S := S) (x := x) (by omega) hon
    have HD : Hid (∀ m, ∃ T, (((ed G x).take m).foldl (stp G f) (S.set x true, O)).2 = O ++ T ∧ Did G (fun r => r = x) (S.set x true) (((ed G x).take m).foldl (stp G f) (S.set x true, O)).1 T) := fun m => by
      obtain ⟨T, h1, h2, _⟩ := fold_did hG (x := x) (dfs_did hG f) ((ed G x).take m) (S.set x true, O) (fun y hy => List.mem_of_mem_take hy) (by simpa using hSl) (by show off (S.set x true) ≤ f; omega) ((on_set (by omega)).2 (Or.inl rfl))
      exact ⟨T, h1, h2⟩
    have HS : Hid (dfs G (f + 1) x S O = ((((ed G x).foldl (stp G f) (S.set x true, O)).1, ((ed G x).foldl (stp G f) (S.set x true, O)).2 ++ [x]))) := dfs_succ G f x S O
    have HG : Hid (∀ y ∈ ed G x, y < G.length) := fun y hy => hG _ _ hy
    have hlk := hk x
    have hEw := hE
    generalize hl : ed G x = l at *
    have hin : ∀ W, Below B w W → W.cell? ⟨b, o + x, none⟩ = some (.slice ad l.length c') ∧ (∀ m (h : m < l.length), ∃ b' o', ad = some ⟨b', o', none⟩ ∧ W.cell? ⟨b', o' + m, none⟩ = some (.int .i64 (l[m] : Nat))) := fun W bl => by
      refine ⟨(World.cell?_of_block (a := ⟨b, o + x, none⟩) (bl.block b hb)).trans f1, fun m hm => ?_⟩
      obtain ⟨b', o', c2, e2, hb', hc'⟩ := hcl (by omega)
      cases e2
      exact ⟨b', o', rfl, (World.cell?_of_block (a := ⟨b', o' + m, none⟩) (bl.block b' hb')).trans (hc' m hm)⟩
    have HI : Hid (∀ W, Below B w W → W.cell? ⟨b, o + x, none⟩ = some (.slice ad l.length c') ∧ (∀ m (h : m < l.length), ∃ b' o', ad = some ⟨b', o', none⟩ ∧ W.cell? ⟨b', o' + m, none⟩ = some (.int .i64 (l[m] : Nat)))) := hin
    clear hin hcl hf f2 e' hl
    go_enter Try.func26, Try.ntmps26
    go_wp2
    obtain ⟨W0, hW0⟩ : ∃ W, w.setCell ⟨g, x, none⟩ (.bool true) = W := ⟨_, rfl⟩
    have b0 : Below B w W0 := by rw [← hW0]; exact (Below.refl _ _).setCell (by show B ≤ g; omega) _
    rw [hW0] at hF0 gr0 ⊢
    have hT0 : Tl W0 (g + 1) vo O := World.ownsRow.kept hT gr0 (by cases hv : vo.ownBlock with | none => exact Or.inl rfl | some q => have := (World.ownsRow.lt hT q hv).1; exact Or.inr (by intro e; injection e; omega))
    clear hW0 s1 s2 f1 gr0
    go_loopw [3, 9] (fun ov kv wr => ∃ (m : Nat) (p : List Bool × List Nat), kv = .int .i64 (m : Nat) ∧ m ≤ l.length ∧ Below B w wr ∧ Fl wr B g G.length p.1 ∧ Tl wr (g + 1) ov p.2 ∧ Hid ((l.take m).foldl (stp G f) (S.set x true, O) = p)) (fun _ kv _ => l.length - (intOf kv).toNat)
    case atStart => exact ⟨0, (S.set x true, O), rfl, by omega, b0, hF0, hT0, rfl⟩
    case round =>
      obtain ⟨m, p, rfl, hml, bel, hFm, hTm, hH⟩ := hrel
      obtain ⟨c1, c2⟩ := HI.out _ bel
      by_cases hmt : m < l.length
      · obtain ⟨b', o', rfl, c3⟩ := c2 m hmt
        have hy := HG.out l[m] (List.getElem_mem hmt)
        obtain ⟨T, t1, t2⟩ := HD.out m
        rw [hH.out] at t1 t2
        have hpl : p.2.length + off p.1 ≤ G.length := by have := t2.cnt; rw [t1, List.length_append]; omega
        have hpf : off p.1 ≤ f := by have := t2.cnt; omega
        have HN : Hid ((l.take (m + 1)).foldl (stp G f) (S.set x true, O) = stp G f p l[m]) := by show _ = _; rw [List.take_succ_eq_append_getElem hmt, List.foldl_append, hH.out]; rfl
        clear t1 t2 c2
        generalize l[m] = y at *
        obtain ⟨d1, d2⟩ := hFm.at hy
        cases q : isOn p.1 y with
        | true =>
          rw [q] at d1
          have hst : stp G f p y = p := by unfold stp; rw [if_pos q]
          rw [hst] at HN
          clear hst q
          go_wp2
          go_roundw
          case rel => exact ⟨m + 1, p, by simp, by omega, bel, hFm, hTm, HN⟩
          case measure => simp [intOf]; omega
        | false =>
          rw [q] at d1
          have hst : stp G f p y = dfs G f y p.1 p.2 := by unfold stp; rw [if_neg (by rw [q]; decide)]
          have C := ih wr y p.1 p.2 u3 g (hEw.bel bel) hFm hTm hy (fun h => by rw [isOn_iff.2 h] at q; cases q) hpf hpl
          rw [hst] at HN
          clear hst q
          go_wp2_with (go_at_call 26; refine C.mono ?_; rintro e W1 ⟨v1, rfl, hF1, hT1, b1⟩)
          go_roundw
          case rel => exact ⟨m + 1, dfs G f y p.1 p.2, by simp, by omega, bel.trans b1, hF1, hT1, HN⟩
          case measure => simp [intOf]; omega
      · obtain ⟨T, t1, t2⟩ := HD.out m
        rw [hH.out] at t1 t2
        have hpl : p.2.length < G.length := by have := t2.cnt; rw [t1, List.length_append]; omega
        have e : l.take m = l := List.take_of_length_le (by omega)
        rw [e] at hH
        have HR : Hid (dfs G (f + 1) x S O = (p.1, p.2 ++ [x])) := by show _ = _; rw [HS.out, hH.out]
        have hsz := bel.size
        obtain ⟨_, hgw⟩ := hFm.lt
        clear e t1 t2 c2 hH
        go_wp2_with (at_builtin; refine wpList_append_own _ rfl _ _ 31 rfl (g + 1) 3 i0 (.int .i64 0) 1 8 Try.underlying31 hi hz0 hz1 hz2 rfl (by decide) _ _ _ rfl (World.ownsRow.alloc hTm _) ⟨_, 0, none⟩ 1 1 [.int .i64 (x : Nat)] rfl rfl (cell_one_new _ _ _) (fun x hx => by simp at hx; subst hx; rfl) (by unfold maxLen; omega) (by omega) (by simp; omega) ?_; intro v1 W1 ho1 hg1 hn1)
        go_ret
        have hFa : Fl (wr.alloc (.cells #[.int .i64 (x : Nat)] 3)) B g G.length p.1 := World.ownsRow.alloc hFm _
        have hne : ∀ j, u3.ownBlock = some j → g + 1 ≤ j := fun j hj => (World.ownsRow.lt hTm j hj).1
        refine ⟨_, rfl, ?_⟩
        rw [HR.out]
        exact ⟨World.ownsRow.kept hFa hg1 (Or.inr (fun e => by have := hne g e.symm; omega)), Tl.add ho1, (bel.alloc (by omega) _).grown hg1 (by simp; omega) (fun j hj => by have := hne j hj; omega)⟩
/-- flags that are made anew. -/
def flg (n : Nat) : Array Value := madeCells (Value.bool false).cells n
theorem make_bool (n : Nat) (hn : n ≤ 4194304) (W : World) : (Instr.makeSlice 51 (.int .i64 (n : Nat)) (.int .i64 (n : Nat))).run Try.prog W = .ok (.slice (some ⟨W.heap.size, 0, none⟩) n n) (W.alloc (.cells (flg n) 4)) := by
  obtain ⟨i0, hi0, hz0, hz1, hz2⟩ := info_parts info_bool
  have h := run_make (P := Try.prog) W 51 4 i0 (.bool false) Try.underlying51 hi0 hz0 .i64 .i64 n n (by omega) (by omega) (by rw [hz2]; omega) (by omega)
  rw [hz1] at h
  simpa [flg] using h
theorem flg_list (n : Nat) : (flg n).toList = bools (List.replicate n false) := by
  unfold flg bools
  rw [List.map_replicate]
  exact toList_madeCells_one _ _
theorem Fl.made {w : World} {base n : Nat} (hb : base ≤ w.heap.size) (hn : n ≤ 4194304) : Fl (w.alloc (.cells (flg n) 4)) base w.heap.size n (List.replicate n false) := by
  have h := World.ownsRow_lit (base := base) (e := 4) (size := 1) w (flg n) n hb (by unfold maxLen; omega) (by unfold flg; rw [size_madeCells]; omega)
  rw [flg_list] at h
  exact h
theorem off_rep (n : Nat) : off (List.replicate n false) = n := by
  induction n with
  | zero => rfl
  | succ n ih => rw [List.replicate_succ]; simp only [off]; rw [ih]; simp; omega
theorem not_on_rep (n x : Nat) : ¬ on (List.replicate n false) x := by
  unfold on
  rw [List.getElem?_replicate]
  split <;> simp
/-- what Order tells. -/
def ordL (E : List (List Int)) (root : Int) : List Nat := if chk E = true ∧ 0 ≤ root ∧ root < E.length then (dfs (nE E) E.length root.toNat (List.replicate E.length false) []).2 else []
theorem ed_len {E : List (List Int)} (hk : ∀ l ∈ E, l.length ≤ 4194304) (x : Nat) : (ed (nE E) x).length ≤ 4194304 := by
  unfold ed
  cases h : (nE E)[x]? with
  | none => simp
  | some l =>
    obtain ⟨l', hl', rfl⟩ := List.mem_map.1 (List.mem_of_getElem? h)
    simpa using hk l' hl'
theorem row_base {w : World} {base base' : Nat} {e : TypeId} {size : Nat} {v : Value} {n : Nat} {xs : List Value} (h : w.ownsRow base e size v n xs) (k : base' ≤ base) : w.ownsRow base' e size v n xs := by
  refine ⟨h.1, ?_⟩
  rcases h.2 with hn | ⟨g, cap, cur, e, hb, rest⟩
  · exact .inl hn
  · exact .inr ⟨g, cap, cur, e, Nat.le_trans k hb, rest⟩
set_option maxRecDepth 100000 in
set_option maxHeartbeats 8000000 in
theorem rorder_any {w : World} {B : Nat} {v : Value} {E : List (List Int)} (h : EAt w B v E) (hB : B ≤ w.heap.size) (hl : E.length ≤ 4194304) (hk : ∀ l ∈ E, l.length ≤ 4194304) (root : Int) :
    Calls Try.prog 17 #[v, .int .i64 root] w fun e w' => ∃ vo, e = .returned vo ∧ Tl w' w.heap.size vo (ordL E root) ∧ Below w.heap.size w w' := by
  have C := rcheck_any h hB hl hk
  obtain ⟨ad, c, rfl⟩ := h.op
  obtain ⟨res, hres⟩ : ∃ r, ordL E root = r := ⟨_, rfl⟩
  have HR : Hid (ordL E root = res) := hres
  rw [hres]
  clear hres
  by_cases hc : chk E = true
  · have ec : chkN E = 0 := by unfold chkN; rw [if_pos hc]
    rw [ec] at C
    clear ec
    by_cases h0 : root < 0
    · obtain rfl : [] = res := by rw [← HR.out, ordL, if_neg (by omega)]
      go_enter Try.func17, Try.ntmps17
      go_wp2_with (go_at_call 10; refine C.mono ?_; rintro e W1 ⟨rfl, b1⟩)
      go_ret
      exact ⟨_, rfl, World.ownsRow_nil _ _ _ _, b1⟩
    · by_cases h1 : root < E.length
      · obtain ⟨x, rfl⟩ : ∃ x : Nat, root = x := ⟨root.toNat, by omega⟩
        have hx : x < E.length := by omega
        obtain ⟨hG, hok⟩ := graph_of hc
        have eR : (dfs (nE E) E.length x (List.replicate E.length false) []).2 = res := by rw [← HR.out, ordL, if_pos ⟨hc, by omega, h1⟩]; rfl
        have hmk := fun W => make_bool E.length hl W
        have CW := fun (W : World) (hW : Below w.heap.size w W) => rwalk_any hok (by rw [nE_len]; exact hl) (ed_len hk) (B := w.heap.size) (v := .slice ad E.length c) E.length (W.alloc (.cells (flg E.length) 4)) x (List.replicate E.length false) [] (.slice none 0 0) W.heap.size (by rw [← hG]; exact ((h.mono hB).bel (hW.alloc hW.size _))) (by rw [nE_len]; exact Fl.made hW.size hl) (World.ownsRow_nil _ _ _ _) (by rw [nE_len]; exact hx) (not_on_rep _ _) (by rw [off_rep]; omega) (by rw [off_rep, nE_len]; simp)
        rw [nE_len, eR] at CW
        have HC : Hid _ := CW
        clear hG hok eR CW hc
        go_enter Try.func17, Try.ntmps17
        go_wp2_with (first
          | (go_at_call 10; refine C.mono ?_; rintro e W1 ⟨rfl, b1⟩)
          | (go_at_call 26; refine (HC.out _ b1).mono ?_; rintro e W2 ⟨v2, rfl, hF2, hT2, b2⟩))
        go_ret
        exact ⟨_, rfl, row_base hT2 (by have := b1.size; omega), (b1.alloc b1.size _).trans b2⟩
      · obtain rfl : [] = res := by rw [← HR.out, ordL, if_neg (by omega)]
        go_enter Try.func17, Try.ntmps17
        go_wp2_with (go_at_call 10; refine C.mono ?_; rintro e W1 ⟨rfl, b1⟩)
        go_ret
        exact ⟨_, rfl, World.ownsRow_nil _ _ _ _, b1⟩
  · have ec : chkN E = 110 := by unfold chkN; rw [if_neg hc]
    rw [ec] at C
    clear ec
    obtain rfl : [] = res := by rw [← HR.out, ordL, if_neg (fun h => hc h.1)]
    clear hc
    go_enter Try.func17, Try.ntmps17
    go_wp2_with (go_at_call 10; refine C.mono ?_; rintro e W1 ⟨rfl, b1⟩)
    go_ret
    exact ⟨_, rfl, World.ownsRow_nil _ _ _ _, b1⟩
end Go.Proofs.Ytbliaamckldncaa
