/- Own text. A walk by states, from a place on. -/
import Derived.Test.YtbliaamckldncaaOdM3
import Derived.Laws.Tables
import Derived.Shelf.Abstract
namespace Go.Proofs.Ytbliaamckldncaa
open Go.RowKit Gph
set_option linter.unusedVariables false
set_option linter.unusedSimpArgs false

theorem setRow_below {B : Nat} {a w : World} (h : Below B a w) {g : Nat} (hg : B ≤ g) (cs : Array Value) : Below B a (w.setRow g cs) := by
  refine h.trans ⟨rfl, rfl, rfl, by simp [World.setRow], fun k hk => ?_⟩
  have hne : g ≠ k := by omega
  unfold World.setRow
  simp only [Array.getElem?_modify, if_neg hne]
/-- what a walk does next, and what is left to do. -/
def Next (G : List (List Nat)) (res : List Bool × List Nat) (s at_ : Int) (S : List Bool) (L stk O : List Nat) : Prop :=
  (s = 0 ∧ ∃ y : Nat, at_ = y ∧ y < G.length ∧ ¬ on S y ∧ rest G L stk (dfs G G.length y S O) = res) ∨
  (s = 1 ∧ ∃ x st, stk = x :: st ∧ rest G L stk (S, O) = res) ∨
  (s = 2 ∧ ∃ x st, stk = x :: st ∧ (ed G x).length ≤ lk L x ∧ rest G L stk (S, O) = res) ∨
  (s = 3 ∧ stk = [] ∧ (S, O) = res)
def wt (s : Int) : Nat := if s = 0 then 1 else if s = 1 then 2 else if s = 2 then 1 else 0
set_option maxRecDepth 100000 in
set_option maxHeartbeats 4000000 in
theorem from_any {G : List (List Nat)} (hG : Ok G) (hn : G.length ≤ 1048576) (hk : ∀ x, (ed G x).length ≤ 1099511627776) {w : World} {lo q : Nat} {ve : Value} {ge gl : Nat} {at0 : Int} {S : List Bool} {L O : List Nat} {r : Nat} {vo vt : Value}
    (h : Wk w lo q ve ge gl G.length at0 S L [] O vo vt) (hE : EAt w lo ve (toI G)) (hlo : lo ≤ w.heap.size) (hW : Wst G S L [] O) (hr : r < G.length) (hnr : ¬ on S r) :
    Calls Try.prog 25 #[.pointer (some ⟨q, 0, none⟩), .int .i64 (r : Nat)] w fun e w' => ∃ (L' : List Nat) (at' : Int) (vo' vt' : Value), e = .returned (.tuple #[]) ∧ Wk w' lo q ve ge gl G.length at' (dfs G G.length r S O).1 L' [] (dfs G G.length r S O).2 vo' vt' ∧ Wst G (dfs G G.length r S O).1 L' [] (dfs G G.length r S O).2 ∧ Below lo w w' := by
  obtain ⟨res, hres⟩ : ∃ p, dfs G G.length r S O = p := ⟨_, rfl⟩
  have HR : Hid (Next G res 0 (r : Nat) S L [] O) := Or.inl ⟨rfl, r, rfl, hr, hnr, hres⟩
  rw [hres]
  have HW : Hid (Wst G S L [] O) := hW
  clear hres hW hnr
  obtain ⟨W0, hW0⟩ : ∃ W, (w.alloc (.cells #[.nilFunc, .nilFunc, .nilFunc] 61)).setRow w.heap.size #[.func (.func 28) #[] #[], .func (.func 29) #[] #[], .func (.func 30) #[] #[]] = W := ⟨_, rfl⟩
  have hsz : (Try.prog.info? 61).map (·.size) = some 3 := by kernel_rfl
  have hone : (#[.func (.func 28) #[] #[], .func (.func 29) #[] #[], .func (.func 30) #[] #[]] : Array Value).all (·.oneCell') = true := by simp [Value.oneCell']
  have b0 : Below w.heap.size w W0 := by rw [← hW0]; exact setRow_below ((Below.refl _ _).alloc (Nat.le_refl _) _) (Nat.le_refl _) _
  have hga : W0.heap[w.heap.size]? = some (.cells #[.func (.func 28) #[] #[], .func (.func 29) #[] #[], .func (.func 30) #[] #[]] 61) := by rw [← hW0]; exact setRow_heap _ _ _ _ _ _ (heap_alloc_new w _)
  have hgl : w.heap.size < W0.heap.size := (Array.getElem?_eq_some_iff.1 hga).1
  have hlt : ∀ {b : Nat}, b < w.heap.size → W0.heap[b]? = w.heap[b]? := fun hb => b0.block _ hb
  have h0 : Wk W0 lo q ve ge gl G.length at0 S L [] O vo vt := ⟨(hlt h.s.cells.2.2.2.2.2.2.2).trans h.s, h.hq, row_keep h.fe fun b hb => hlt (by cases hb; exact h.fe.lt.2), row_keep h.fl fun b hb => hlt (by cases hb; exact h.fl.lt.2), row_keep h.ho fun b hb => hlt (World.ownsRow.lt h.ho b hb).2, row_keep h.ht fun b hb => hlt (World.ownsRow.lt h.ht b hb).2, h.d1, h.d2, h.d3, h.ao, h.at'⟩
  have hfg : Fgn W0 w.heap.size q ge gl vo vt := ⟨hgl, by have := h.s.cells.2.2.2.2.2.2.2; omega, by have := h.fe.lt.2; omega, by have := h.fl.lt.2; omega, fun e => by have := (World.ownsRow.lt h.ho _ e).2; omega, fun e => by have := (World.ownsRow.lt h.ht _ e).2; omega⟩
  have h1 := h0.setAt (r : Nat)
  have b1 : Below lo w (W0.setCell ⟨q, 3, none⟩ (.int .i64 (r : Nat))) := (b0.mono hlo).setCell h.hq _
  have hfg1 : Fgn (W0.setCell ⟨q, 3, none⟩ (.int .i64 (r : Nat))) w.heap.size q ge gl vo vt := ⟨by have := hfg.1; simpa [World.setCell] using this, hfg.2⟩
  have hga1 : (W0.setCell ⟨q, 3, none⟩ (.int .i64 (r : Nat))).heap[w.heap.size]? = some (.cells #[.func (.func 28) #[] #[], .func (.func 29) #[] #[], .func (.func 30) #[] #[]] 61) := (heap_set_ne hfg.2.1).trans hga
  obtain ⟨c0, c1, c2, c3, c4, c5, cf, cq⟩ := h0.s.cells
  clear c0 c1 c2 c4 c5 h b0 hlt h0 hfg hga hgl
  go_enter Try.func25, Try.ntmps25
  go_wp2_with (refine wpList_store_row rfl 61 _ _ rfl w.heap.size #[.func (.func 28) #[] #[], .func (.func 29) #[] #[], .func (.func 30) #[] #[]] rfl rfl 61 _ (heap_alloc_new w _) hsz (by rfl) hone ?_; rw [hW0])
  obtain ⟨W1, hW1⟩ : ∃ W, W0.setCell ⟨q, 3, none⟩ (.int .i64 (r : Nat)) = W := ⟨_, rfl⟩
  rw [hW1] at h1 b1 hfg1 hga1 ⊢
  clear hW1 hW0 c3 cf cq
  go_loopg [5] (10 * off S + 3 * 0 + 1) (fun gk nv wr => ∃ (s at_ : Int) (S' : List Bool) (L' stk O' : List Nat) (vo' vt' : Value), nv = .int .i64 s ∧ gk = 10 * off S' + 3 * stk.length + wt s ∧ Wk wr lo q ve ge gl G.length at_ S' L' stk.reverse O' vo' vt' ∧ Below lo w wr ∧ Hid (Fgn wr w.heap.size q ge gl vo' vt') ∧ Hid (wr.heap[w.heap.size]? = W1.heap[w.heap.size]?) ∧ Hid (Wst G S' L' stk O') ∧ Hid (Next G res s at_ S' L' stk O'))
  case atStart => exact ⟨0, _, S, L, [], O, _, _, rfl, rfl, h1, b1, hfg1, rfl, HW, HR⟩
  case round =>
    clear h1 b1 hfg1 HW HR
    obtain ⟨s, at_, S', L', stk, O', vo', vt', rfl, rfl, h, bel, HF, HH, HW, HN⟩ := hrel
    have hgb : wr.heap[w.heap.size]? = some (.cells #[.func (.func 28) #[] #[], .func (.func 29) #[] #[], .func (.func 30) #[] #[]] 61) := HH.out.trans hga1
    have k0 : wr.cell? ⟨w.heap.size, 0, none⟩ = some (.func (.func 28) #[] #[]) := by rw [cell_of_row wr _ 0 _ _ _ hgb]; rfl
    have k1 : wr.cell? ⟨w.heap.size, 1, none⟩ = some (.func (.func 29) #[] #[]) := by rw [cell_of_row wr _ 1 _ _ _ hgb]; rfl
    have k2 : wr.cell? ⟨w.heap.size, 2, none⟩ = some (.func (.func 30) #[] #[]) := by rw [cell_of_row wr _ 2 _ _ _ hgb]; rfl
    clear hgb
    have hlw : lo ≤ wr.heap.size := by have := bel.size; omega
    rcases HN.out with ⟨rfl, y, rfl, hy, hny, hr⟩ | ⟨rfl, x, st, rfl, hr⟩ | ⟨rfl, x, st, rfl, hkx, hr⟩ | ⟨rfl, rfl, hr⟩
    · have hcnt := HW.out.cnt
      have hyo := off_set (S := S') (x := y) (by rw [HW.out.sl]; exact hy) hny
      obtain ⟨w1, w2⟩ := HW.out.enter hG hy hny
      have H1 : Hid (Wst G (S'.set y true) L' (y :: stk) O') := w1
      have H2 : Hid (rest G L' (y :: stk) (S'.set y true, O') = res) := w2.trans hr
      have C := enter_any h hlw hy hn (by simp; omega) HF.out
      clear w1 w2 hny hr HN HW k1 k2
      go_wp2_with (go_at_call 28; refine C.mono ?_; rintro e W2 ⟨vo2, rfl, h2, b2, f2, g2⟩)
      go_roundg (10 * off (S'.set y true) + 3 * (y :: stk).length + wt 1)
      case rel => exact ⟨1, _, _, _, y :: stk, _, _, _, rfl, rfl, by rw [List.reverse_cons]; exact h2, bel.trans b2, f2, g2.trans HH.out, H1, Or.inr (Or.inl ⟨rfl, y, stk, rfl, H2.out⟩)⟩
      case measure => simp only [List.length_cons, wt]; simp; omega
    · have C := follow_any hG hn hk (by rw [List.reverse_cons] at h; exact h) (hE.bel bel) hlw HW.out hr HF.out
      clear hr HN HW k0 k2
      go_wp2_with (go_at_call 29; refine C.mono ?_; rintro e W2 ⟨r2, L2, a2, rfl, h2, b2, f2, g2, w2, n2⟩)
      go_roundg (10 * off S' + 3 * (x :: st).length + wt r2)
      case rel =>
        refine ⟨r2, a2, _, L2, x :: st, _, _, _, rfl, rfl, by rw [List.reverse_cons]; exact h2, bel.trans b2, f2, g2.trans HH.out, w2, ?_⟩
        rcases n2 with n2 | n2
        · exact Or.inl n2
        · exact Or.inr (Or.inr (Or.inl ⟨n2.1, x, st, rfl, n2.2⟩))
      case measure =>
        rcases n2 with n2 | n2
        · rw [n2.1]; simp [wt]
        · rw [n2.1]; simp [wt]
    · have hcnt := HW.out.cnt
      simp only [List.length_cons] at hcnt
      obtain ⟨w1, w2⟩ := HW.out.tell hkx
      have H1 : Hid (Wst G S' L' st (O' ++ [x])) := w1
      have H2 : Hid (rest G L' st (S', O' ++ [x]) = res) := w2.trans hr
      have C := tell_any (by rw [List.reverse_cons] at h; exact h) hlw hn (by omega) (by omega) HF.out
      clear w1 w2 hr HN HW k0 k1 hkx
      go_wp2_with (go_at_call 30; refine C.mono ?_; rintro e W2 ⟨vo2, vt2, rfl, h2, b2, f2, g2⟩)
      go_roundg (10 * off S' + 3 * st.length + wt (tellN st))
      case rel =>
        refine ⟨tellN st, _, _, _, st, _, _, _, rfl, rfl, h2, bel.trans b2, f2, g2.trans HH.out, H1, ?_⟩
        cases st with
        | nil => exact Or.inr (Or.inr (Or.inr ⟨rfl, rfl, H2.out⟩))
        | cons a st => exact Or.inr (Or.inl ⟨rfl, a, st, rfl, H2.out⟩)
      case measure =>
        cases st with
        | nil => simp [wt, tellN]; omega
        | cons a st => simp [wt, tellN]; omega
    · obtain rfl := hr
      have HWO : Hid _ := HW.out
      clear HN HW k0 k1 k2
      go_wp2
      go_end0
      first
        | exact ⟨L', at_, vo', vt', rfl, h, HWO.out, bel⟩
        | exact ⟨rfl, L', ⟨at_, vo', vt', h⟩, HWO.out, bel⟩
theorem make_ints (n : Nat) (hn : n ≤ 4194304) (W : World) : (Instr.makeSlice 31 (.int .i64 (n : Nat)) (.int .i64 (n : Nat))).run Try.prog W = .ok (.slice (some ⟨W.heap.size, 0, none⟩) n n) (W.alloc (.cells (madeCells (Value.int .i64 0).cells n) 3)) := by
  obtain ⟨i0, hi0, hz0, hz1, hz2⟩ := info_parts info_int
  have h := run_make (P := Try.prog) W 31 3 i0 (.int .i64 0) Try.underlying31 hi0 hz0 .i64 .i64 n n (by omega) (by omega) (by rw [hz2]; omega) (by omega)
  rw [hz1] at h
  simpa using h
def zs (n : Nat) : Array Value := madeCells (Value.int .i64 0).cells n
theorem make_zs (n : Nat) (hn : n ≤ 4194304) (W : World) : (Instr.makeSlice 31 (.int .i64 (n : Nat)) (.int .i64 (n : Nat))).run Try.prog W = .ok (.slice (some ⟨W.heap.size, 0, none⟩) n n) (W.alloc (.cells (zs n) 3)) := make_ints n hn W
theorem Nl.made {w : World} {base n : Nat} (hb : base ≤ w.heap.size) (hn : n ≤ 4194304) : Nl (w.alloc (.cells (zs n) 3)) base w.heap.size n (List.replicate n 0) := by
  have h := World.ownsRow_lit (base := base) (e := 3) (size := 1) w (zs n) n hb (by unfold maxLen; omega) (by unfold zs; rw [size_madeCells]; omega)
  have e : (zs n).toList = ints (nI (List.replicate n 0)) := by
    unfold zs ints nI
    rw [List.map_replicate, List.map_replicate]
    exact toList_madeCells_one _ _
  rw [e] at h
  exact h
theorem asz (w : World) (o : Obj) : (w.alloc o).heap.size = w.heap.size + 1 := by simp
theorem new_wk {w W : World} {ve : Value} {ge gl n : Nat} (hF : Fl W w.heap.size ge n (List.replicate n false)) (hL : Nl W w.heap.size gl n (List.replicate n 0)) (hs : W.heap.size = w.heap.size + 1 + 1) (d : ge ≠ gl) :
    Wk (W.alloc (.cells #[ve, .slice (some ⟨ge, 0, none⟩) n n, .slice (some ⟨gl, 0, none⟩) n n, .int .i64 0, .slice none 0 0, .slice none 0 0] 57)).drew w.heap.size (w.heap.size + 1 + 1) ve ge gl n 0 (List.replicate n false) (List.replicate n 0) [] [] (.slice none 0 0) (.slice none 0 0) :=
  have h1 := hF.lt.2
  have h2 := hL.lt.2
  Wk.drew ⟨hnew _ hs.symm, by omega, World.ownsRow.alloc hF _, World.ownsRow.alloc hL _, World.ownsRow_nil _ _ _ _, World.ownsRow_nil _ _ _ _, by omega, by omega, d, fun b hb => (by cases hb), fun b hb => (by cases hb)⟩
set_option maxRecDepth 100000 in
set_option maxHeartbeats 4000000 in
theorem newWalk_any {n : Nat} (hn : n ≤ 1048576) {w : World} {ad : Option Addr} {c : Nat} :
    Calls Try.prog 24 #[.slice ad n c] w fun e w' => ∃ (q ge gl : Nat), e = .returned (.pointer (some ⟨q, 0, none⟩)) ∧ Wk w' w.heap.size q (.slice ad n c) ge gl n 0 (List.replicate n false) (List.replicate n 0) [] [] (.slice none 0 0) (.slice none 0 0) ∧ Below w.heap.size w w' := by
  have hmk := fun W => make_bool n (by omega) W
  have hmk2 := fun W => make_zs n (by omega) W
  go_enter Try.func24, Try.ntmps24
  go_wp2
  go_region
  · have e := asz w (.cells (flg n) 4)
    have hL := Nl.made (w := w.alloc (.cells (flg n) 4)) (base := w.heap.size) (n := n) (by omega) (by omega)
    rw [e] at hL
    have h := new_wk (w := w) (ve := .slice ad n c) (World.ownsRow.alloc (Fl.made (w := w) (n := n) (Nat.le_refl _) (by omega)) (.cells (zs n) 3)) hL (by rw [asz, e]) (by omega)
    have b := ((((Below.refl w.heap.size w).alloc (Nat.le_refl _) (.cells (flg n) 4)).alloc (by rw [e]; omega) (.cells (zs n) 3)).alloc (by rw [asz, e]; omega) (.cells #[.slice ad n c, .slice (some ⟨w.heap.size, 0, none⟩) n n, .slice (some ⟨w.heap.size + 1, 0, none⟩) n n, .int .i64 0, .slice none 0 0, .slice none 0 0] 57)).drew
    clear hmk hmk2 e hL
    go_wp2
    go_ret
    exact ⟨_, _, _, rfl, h, b⟩
  · have e := asz w (.cells (zs n) 3)
    have hF := Fl.made (w := w.alloc (.cells (zs n) 3)) (base := w.heap.size) (n := n) (by omega) (by omega)
    rw [e] at hF
    have h := new_wk (w := w) (ve := .slice ad n c) hF (World.ownsRow.alloc (Nl.made (w := w) (n := n) (Nat.le_refl _) (by omega)) (.cells (flg n) 4)) (by rw [asz, e]) (by omega)
    have b := ((((Below.refl w.heap.size w).alloc (Nat.le_refl _) (.cells (zs n) 3)).alloc (by rw [e]; omega) (.cells (flg n) 4)).alloc (by rw [asz, e]; omega) (.cells #[.slice ad n c, .slice (some ⟨w.heap.size + 1, 0, none⟩) n n, .slice (some ⟨w.heap.size, 0, none⟩) n n, .int .i64 0, .slice none 0 0, .slice none 0 0] 57)).drew
    clear hmk hmk2 e hF
    go_wp2
    go_ret
    exact ⟨_, _, _, rfl, h, b⟩
end Go.Proofs.Ytbliaamckldncaa
