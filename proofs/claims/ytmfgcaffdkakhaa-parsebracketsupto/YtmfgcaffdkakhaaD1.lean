/- Own text. Package parse: brackets and signs, so many within one another (of the model; no program is named here). -/
import Derived.Test.YtmfgcaffdkakhaaM4
import Derived.Test.YtmfgcaffdkakhaaR20
namespace Go.Proofs.Ytmfgcaffdkakhaa
open Go.RowKit
set_option linter.unusedVariables false
set_option linter.unusedSimpArgs false

def tPo : Tok := ⟨5, ⟨#[40]⟩, 0, 0⟩
def tPc : Tok := ⟨5, ⟨#[41]⟩, 0, 0⟩
def tMi : Tok := ⟨5, ⟨#[45]⟩, 0, 0⟩
def tX : Tok := ⟨1, ⟨#[120]⟩, 0, 0⟩
theorem isS_tok {L : List Tok} {a : Nat} {t : Tok} (h : tokA L a = t) (s : ByteArray) : isS L a s = ((t.k == 5) && (t.t.toList == s.toList)) := by unfold isS; rw [h]
theorem isWd_tok {L : List Tok} {a : Nat} {t : Tok} (h : tokA L a = t) (s : ByteArray) : isWd L a s = ((t.k == 2) && (t.t.toList == s.toList)) := by unfold isWd; rw [h]
/-- a token behind which nothing goes on. -/
def Stp (t : Tok) : Prop := t = tPc ∨ t = endT
theorem stp_s {t : Tok} (h : Stp t) : ((t.k == 5) && (t.t.toList == sDo.toList)) = false ∧ ((t.k == 5) && (t.t.toList == sBo.toList)) = false ∧ ((t.k == 5) && (t.t.toList == sPo.toList)) = false ∧ ((t.k == 5) && (t.t.toList == sQu.toList)) = false ∧ ((t.k == 5) && (t.t.toList == sAs.toList)) = false ∧ lineI t = 0 := by
  rcases h with rfl | rfl <;> refine ⟨?_, ?_, ?_, ?_, ?_, ?_⟩ <;> kernel_rfl
theorem post_stp {L : List Tok} {b : Nat} (h : Stp (tokA L b)) (E : Nat → Rs Nd) (nd : Nd) {m : Nat} (hm : 0 < m) : postG L E m nd b = .ok nd b := by
  obtain ⟨m, rfl⟩ : ∃ k, m = k + 1 := ⟨m - 1, by omega⟩
  obtain ⟨h1, h2, h3, _⟩ := stp_s h
  rw [postG, isS_tok rfl, isS_tok rfl, isS_tok rfl, h1, h2, h3]
  simp
theorem bin_stp {L : List Tok} {b : Nat} (h : Stp (tokA L b)) (B : Nat → Nat → Rs Nd) (nd : Nd) {m : Nat} (hm : 0 < m) : binG L B 1 m nd b = .ok nd b := by
  obtain ⟨m, rfl⟩ : ∃ k, m = k + 1 := ⟨m - 1, by omega⟩
  obtain ⟨_, _, _, _, _, h6⟩ := stp_s h
  rw [binG, h6]
  simp
/-- from what an operand is to what an expression is. -/
theorem up_post {L : List Tok} {f a o b : Nat} {nd : Nd} (h : primF L f a o = .ok nd b) (hs : Stp (tokA L b)) (hb : b ≤ L.length) : postF L (f + 1) a o = .ok nd b := by
  rw [postF, h]
  exact post_stp hs _ _ (by omega)
theorem up_expr {L : List Tok} {f a o b : Nat} {nd : Nd} (hl : a < L.length) (ho : o < 400) (h : unaryF L f a (o + 1) = .ok nd b) (hs : Stp (tokA L b)) (hb : b ≤ L.length) : exprF L (f + 3) a o = .ok nd b := by
  obtain ⟨_, _, _, h4, h5, _⟩ := stp_s hs
  have e1 : binF L (f + 1) 1 a (o + 1) = .ok nd b := by
    rw [binF, h]
    exact bin_stp hs _ _ (by omega)
  have e2 : condF L (f + 2) a (o + 1) = .ok nd b := by
    rw [condF, e1]
    simp only [Rs.bind]
    rw [isS_tok rfl, h4]
    simp
  rw [exprF, beginR, if_neg (by omega), if_neg (by omega), e2]
  simp only [Rs.bind]
  rw [isS_tok rfl, h5]
  simp
theorem bad_expr {L : List Tok} {f a o b : Nat} {e : Int} (hl : a < L.length) (ho : o < 400) (h : unaryF L f a (o + 1) = .bad b e) : exprF L (f + 3) a o = .bad b e := by
  rw [exprF, beginR, if_neg (by omega), if_neg (by omega)]
  simp only [Rs.bind]
  rw [condF, binF, h]
  simp only [Rs.bind]
theorem not_unary {L : List Tok} {f a o : Nat} {t : Tok} (h : tokA L a = t) (ht : t = tPo ∨ t = tX) : unaryF L (f + 1) a o = postF L f a o := by
  rw [unaryF, isS_tok h, isS_tok h, isWd_tok h]
  rw [if_neg]
  rcases ht with rfl | rfl <;> decide +kernel
theorem prim_x {L : List Tok} {f a o : Nat} (h : tokA L a = tX) : primF L (f + 1) a o = .ok (mk0 6 tX.t []) (a + 1) := by
  rw [primF, h]
  rfl
theorem arrow_no {L : List Tok} (h : ∀ t ∈ L, t.t.toList ≠ [61, 62]) (a : Nat) : arrow L a = false := by
  have key : ∀ (l : List Tok) (i : Nat) (d : Int), arrL L l i d = false := by
    intro l
    induction l with
    | nil => intro i d; rfl
    | cons t ts ih =>
      intro i d
      unfold arrL
      split
      · unfold isS tokA
        by_cases hi : i + 1 < L.length
        · have := h _ (List.getElem_mem hi)
          rw [List.getElem?_eq_getElem hi]
          simp only [Option.getD_some]
          have e : (L[i + 1].t.toList == sAr.toList) = false := by
            rw [show sAr.toList = [61, 62] by decide +kernel, beq_eq_false_iff_ne]; exact this
          rw [e]; simp
        · rw [List.getElem?_eq_none (by omega)]
          rfl
      · exact ih _ _
  exact key _ _ _
theorem prim_po {L : List Tok} {f a o : Nat} (h : tokA L a = tPo) (ha : arrow L a = false) : primF L (f + 2) a o = (exprF L f (a + 1) o).bind fun n a1 => (wantR L sPc a1).bind fun _ a2 => .ok n a2 := by
  rw [primF, h]
  rw [if_neg (by decide), if_neg (by decide), if_neg (by decide), if_neg (by decide), sprimF, isS_tok h, isS_tok h, isS_tok h, ha]
  rw [if_neg (by decide +kernel), if_neg (by decide +kernel), if_pos (by decide +kernel), if_neg (by decide)]

def deepB (n : Nat) : List Tok := List.replicate n tPo ++ tX :: List.replicate n tPc
def deepM (n : Nat) : List Tok := List.replicate n tMi ++ [tX]
theorem deepB_len (n : Nat) : (deepB n).length = 2 * n + 1 := by simp [deepB]; omega
theorem deepM_len (n : Nat) : (deepM n).length = n + 1 := by simp [deepM]
theorem deepB_po {n a : Nat} (h : a < n) : tokA (deepB n) a = tPo := by
  simp [tokA, deepB, List.getElem?_append, h]
theorem deepB_x (n : Nat) : tokA (deepB n) n = tX := by
  simp [tokA, deepB]
theorem deepB_pc {n a : Nat} (h : n < a) (h2 : a ≤ 2 * n) : tokA (deepB n) a = tPc := by
  obtain ⟨k, rfl⟩ : ∃ k, a = n + 1 + k := ⟨a - n - 1, by omega⟩
  have e : n + 1 + k - n = k + 1 := by omega
  have hk : k < n := by omega
  simp [tokA, deepB, List.getElem?_append, e, hk, show ¬ n + 1 + k < n by omega]
theorem deepB_end {n a : Nat} (h : 2 * n < a) : tokA (deepB n) a = endT := by
  unfold tokA
  rw [List.getElem?_eq_none (by rw [deepB_len]; omega)]
  rfl
theorem deepB_stp {n a : Nat} (h : n < a) : Stp (tokA (deepB n) a) := by
  by_cases h2 : a ≤ 2 * n
  · exact .inl (deepB_pc h h2)
  · exact .inr (deepB_end (by omega))
theorem deepM_mi {n a : Nat} (h : a < n) : tokA (deepM n) a = tMi := by
  simp [tokA, deepM, List.getElem?_append, h]
theorem deepM_x (n : Nat) : tokA (deepM n) n = tX := by
  simp [tokA, deepM]
theorem deepM_stp {n : Nat} : Stp (tokA (deepM n) (n + 1)) := by
  refine .inr ?_
  unfold tokA
  rw [List.getElem?_eq_none (by rw [deepM_len]; omega)]
  rfl
theorem deepB_arrow (n a : Nat) : arrow (deepB n) a = false := by
  refine arrow_no (fun t ht => ?_) a
  simp only [deepB, List.mem_append, List.mem_cons, List.mem_replicate] at ht
  rcases ht with ⟨_, rfl⟩ | rfl | ⟨_, rfl⟩ <;> decide +kernel
theorem brackets_ok {n : Nat} (hn : n ≤ 399) : ∀ (j a f : Nat), a + j = n → exprF (deepB n) (f + 7 * j + 7) a a = .ok (mk0 6 tX.t []) (2 * n + 1 - a) := by
  intro j
  induction j with
  | zero =>
    intro a f h
    obtain rfl : a = n := by omega
    have e1 : postF (deepB a) (f + 3) a (a + 1) = .ok (mk0 6 tX.t []) (a + 1) := up_post (prim_x (deepB_x a)) (deepB_stp (by omega)) (by rw [deepB_len]; omega)
    have e2 : unaryF (deepB a) (f + 4) a (a + 1) = .ok (mk0 6 tX.t []) (a + 1) := (not_unary (deepB_x a) (.inr rfl)).trans e1
    rw [show 2 * a + 1 - a = a + 1 by omega]
    exact up_expr (by rw [deepB_len]; omega) (by omega) e2 (deepB_stp (by omega)) (by rw [deepB_len]; omega)
  | succ j ih =>
    intro a f h
    have e0 := ih (a + 1) f (by omega)
    have hp : primF (deepB n) (f + 7 * j + 9) a (a + 1) = .ok (mk0 6 tX.t []) (2 * n + 1 - a) := by
      rw [prim_po (deepB_po (by omega)) (deepB_arrow n a), e0]
      simp only [Rs.bind]
      rw [wantR_yes (by rw [isS_tok (deepB_pc (by omega) (by omega))]; decide +kernel)]
      simp only [Rs.bind]
      congr 1
      omega
    have e1 := up_post hp (deepB_stp (by omega)) (by rw [deepB_len]; omega)
    have e2 : unaryF (deepB n) (f + 7 * j + 11) a (a + 1) = _ := (not_unary (deepB_po (by omega)) (.inl rfl)).trans e1
    exact up_expr (by rw [deepB_len]; omega) (by omega) e2 (deepB_stp (by omega)) (by rw [deepB_len]; omega)
theorem brackets_bad {n : Nat} (hn : 400 ≤ n) : ∀ (j a f : Nat), a + j = 400 → exprF (deepB n) (f + 7 * j + 1) a a = .bad 400 2 := by
  intro j
  induction j with
  | zero =>
    intro a f h
    obtain rfl : a = 400 := by omega
    rw [exprF, beginR, if_neg (by rw [deepB_len]; omega), if_pos (by omega)]
    rfl
  | succ j ih =>
    intro a f h
    have e0 := ih (a + 1) f (by omega)
    have hp : primF (deepB n) (f + 7 * j + 3) a (a + 1) = .bad 400 2 := by
      rw [prim_po (deepB_po (by omega)) (deepB_arrow n a), e0]
      rfl
    have e1 : postF (deepB n) (f + 7 * j + 4) a (a + 1) = .bad 400 2 := by
      rw [postF, hp]
      rfl
    have e2 : unaryF (deepB n) (f + 7 * j + 5) a (a + 1) = _ := (not_unary (deepB_po (by omega)) (.inl rfl)).trans e1
    exact bad_expr (by rw [deepB_len]; omega) (by omega) e2
theorem unary_mi {L : List Tok} {f a o : Nat} (h : tokA L a = tMi) : unaryF L (f + 1) a o = (beginR L a o).bind fun _ _ => (unaryF L f (a + 1) (o + 1)).bind fun n a1 => .ok (mk0 15 (tokA L a).t [n]) a1 := by
  rw [unaryF, isS_tok h, if_pos (.inl (by decide +kernel))]
theorem signs_ok {n : Nat} (hn : n ≤ 399) : ∀ (j a f : Nat), a + j = n → ∃ x, unaryF (deepM n) (f + j + 3) a (a + 1) = .ok x (n + 1) := by
  intro j
  induction j with
  | zero =>
    intro a f h
    obtain rfl : a = n := by omega
    have e1 : postF (deepM a) (f + 2) a (a + 1) = .ok (mk0 6 tX.t []) (a + 1) := up_post (prim_x (deepM_x a)) deepM_stp (by rw [deepM_len]; omega)
    exact ⟨_, (not_unary (deepM_x a) (.inr rfl)).trans e1⟩
  | succ j ih =>
    intro a f h
    obtain ⟨x, e0⟩ := ih (a + 1) f (by omega)
    refine ⟨mk0 15 (tokA (deepM n) a).t [x], ?_⟩
    rw [show f + (j + 1) + 3 = (f + j + 3) + 1 by omega, unary_mi (deepM_mi (by omega)), beginR, if_neg (by rw [deepM_len]; omega), if_neg (by omega)]
    simp only [Rs.bind]
    rw [e0]
theorem signs_bad {n : Nat} (hn : 400 ≤ n) : ∀ (j a f : Nat), a + j = 399 → unaryF (deepM n) (f + j + 1) a (a + 1) = .bad 399 2 := by
  intro j
  induction j with
  | zero =>
    intro a f h
    obtain rfl : a = 399 := by omega
    rw [unary_mi (deepM_mi (by omega)), beginR, if_neg (by rw [deepM_len]; omega), if_pos (by omega)]
    rfl
  | succ j ih =>
    intro a f h
    have e0 := ih (a + 1) f (by omega)
    rw [show f + (j + 1) + 1 = (f + j + 1) + 1 by omega, unary_mi (deepM_mi (by omega)), beginR, if_neg (by rw [deepM_len]; omega), if_neg (by omega)]
    simp only [Rs.bind]
    rw [e0]
theorem deepB_ok {n : Nat} (hn : n ≤ 399) : exprF (deepB n) (fuelL (deepB n)) 0 0 = .ok (mk0 6 tX.t []) (2 * n + 1) := by
  obtain ⟨f, hf⟩ : ∃ f, fuelL (deepB n) = f + 7 * n + 7 := ⟨fuelL (deepB n) - 7 * n - 7, by unfold fuelL; rw [deepB_len]; omega⟩
  rw [hf]
  exact brackets_ok hn n 0 f (by omega)
theorem deepB_bad {n : Nat} (hn : 400 ≤ n) : exprF (deepB n) (fuelL (deepB n)) 0 0 = .bad 400 2 := by
  obtain ⟨f, hf⟩ : ∃ f, fuelL (deepB n) = f + 7 * 400 + 1 := ⟨fuelL (deepB n) - 7 * 400 - 1, by unfold fuelL; rw [deepB_len]; omega⟩
  rw [hf]
  exact brackets_bad hn 400 0 f (by omega)
theorem deepM_ok {n : Nat} (hn : n ≤ 399) : ∃ x, exprF (deepM n) (fuelL (deepM n)) 0 0 = .ok x (n + 1) := by
  obtain ⟨f, hf⟩ : ∃ f, fuelL (deepM n) = (f + n + 3) + 3 := ⟨fuelL (deepM n) - n - 6, by unfold fuelL; rw [deepM_len]; omega⟩
  obtain ⟨x, h⟩ := signs_ok hn n 0 f (by omega)
  rw [hf]
  exact ⟨x, up_expr (by rw [deepM_len]; omega) (by omega) h deepM_stp (by rw [deepM_len]; omega)⟩
theorem deepM_bad {n : Nat} (hn : 400 ≤ n) : exprF (deepM n) (fuelL (deepM n)) 0 0 = .bad 399 2 := by
  obtain ⟨f, hf⟩ : ∃ f, fuelL (deepM n) = (f + 399 + 1) + 3 := ⟨fuelL (deepM n) - 403, by unfold fuelL; rw [deepM_len]; omega⟩
  rw [hf]
  exact bad_expr (by rw [deepM_len]; omega) (by omega) (signs_bad hn 399 0 f (by omega))
end Go.Proofs.Ytmfgcaffdkakhaa
