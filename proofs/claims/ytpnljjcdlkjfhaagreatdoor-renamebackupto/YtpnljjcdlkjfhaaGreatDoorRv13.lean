/- Own text. A tree with another in one of its places, in memory. Replace of package tree. A tree in a cell of its own. -/
import Derived.Test.YtpnljjcdlkjfhaaGreatDoorRv12
set_option linter.unusedVariables false
namespace Go.Proofs.YtpnljjcdlkjfhaaGreatDoor
open Go.RowKit
theorem Nd.repl_zero (x m : Nd) : x.repl 0 m = m := by cases x; rw [Nd.repl]; simp
theorem Nd.repl_succ (x m : Nd) (n : Nat) : x.repl (1 + n) m = .mk x.k x.t x.n (repls x.ks n m) := by
  cases x
  rw [Nd.repl, if_neg (by omega), show 1 + n - 1 = n by omega]
  rfl
theorem repls_set : ∀ (l : List Nd) (i k : Nat) (m : Nd) (hi : i < l.length), k < l[i].size → repls l (sizes (l.take i) + k) m = l.set i (l[i].repl k m)
  | x :: l, 0, k, m, hi, hk => by
    rw [List.take_zero, sizes_nil, Nat.zero_add, repls]
    simp only [List.getElem_cons_zero] at hk ⊢
    rw [if_pos hk]; rfl
  | x :: l, i + 1, k, m, hi, hk => by
    rw [List.take_succ_cons, sizes_cons, repls, if_neg (by omega), show x.size + sizes (l.take i) + k - x.size = sizes (l.take i) + k by omega]
    simp only [List.getElem_cons_succ] at hk ⊢
    rw [repls_set l i k m (by simpa using hi) hk]; rfl

theorem Sep.op {w : World} {S : Nat → Prop} {v : Value} {ks : List Nd} (h : Sep w S v ks) : (v = .slice none 0 0 ∧ ks = []) ∨ ∃ (bl : Nat) (f : Nat → Value) (T : Nat → Nat → Prop) (cur : Array Value), v = .slice (some ⟨bl, 0, none⟩) ks.length ks.length ∧ 0 < ks.length ∧ S bl ∧ (∀ i b, T i b → S b) ∧ (∀ i, ¬ T i bl) ∧ (∀ i j b, i ≠ j → T i b → ¬ T j b) ∧
    w.heap[bl]? = some (.cells cur 51 (0, 0)) ∧ cur.size = ks.length * 4 ∧ (∀ i (h : i < ks.length), Four w bl (i * 4) ks[i] (f i)) ∧ (∀ i (h : i < ks.length), Sep w (T i) (f i) ks[i].ks) := by
  cases h with
  | nil => exact .inl ⟨rfl, rfl⟩
  | row _ bl ks f T cur hn hS hT hTb hd hg hcs hf4 hk => exact .inr ⟨bl, f, T, cur, rfl, hn, hS, hT, hTb, hd, hg, hcs, hf4, hk⟩
/-- the block of a place. -/
theorem PlT.block {w : World} {b o : Nat} {x : Nd} {k b' o' : Nat} {y : Nd} (h : PlT w b o x k b' o' y) : ∀ {S : Nat → Prop} {v : Value}, Sep w S v x.ks → Four w b o x v → (b' = b ∧ o' = o) ∨ (S b' ∧ ∃ cur, w.heap[b']? = some (.cells cur 51 (0, 0)) ∧ o' + 4 ≤ cur.size) := by
  induction h with
  | here b o x => intro S v _ _; exact .inl ⟨rfl, rfl⟩
  | kid b o x bl ol c i hi hc k b' o' y h ih =>
    intro S v hs h4
    have e := h4.2.2.2.symm.trans hc
    rcases hs.op with ⟨_, h0⟩ | ⟨bl', f, T, cur, rfl, hn, hS, hT, hTb, hd, hg, hcs, hf4, hk⟩
    · simp [h0] at hi
    · simp only [Option.some.injEq, Value.slice.injEq, Addr.mk.injEq] at e
      obtain ⟨⟨rfl, rfl, _⟩, _, _⟩ := e
      simp only [Nat.zero_add] at ih
      rcases ih (hk i hi) (hf4 i hi) with ⟨rfl, rfl⟩ | ⟨h1, h2⟩
      · exact .inr ⟨hS, cur, hg, by rw [hcs]; omega⟩
      · exact .inr ⟨hT i _ h1, h2⟩

/-- a tree that is written into a place: the whole is the tree with it in that place. -/
theorem PlT.lens {w w' : World} {m : Nd} {vm : Value} {M : Nat → Prop} {b o : Nat} {x : Nd} {k b' o' : Nat} {y : Nd} (h : PlT w b o x k b' o' y) (hm4 : Four w' b' o' m vm) (hms : Sep w' M vm m.ks)
    (hB : ∀ j, ¬ (o' ≤ j ∧ j < o' + 4) → w'.cell? ⟨b', j, none⟩ = w.cell? ⟨b', j, none⟩) (hC : ∀ cur, w.heap[b']? = some (.cells cur 51 (0, 0)) → ∃ cur', w'.heap[b']? = some (.cells cur' 51 (0, 0)) ∧ cur'.size = cur.size) :
    ∀ {S : Nat → Prop} {v : Value}, Sep w S v x.ks → Four w b o x v → ¬ S b → (∀ c, M c → ¬ S c) → (∀ c, S c ∨ c = b → c ≠ b' → w'.heap[c]? = w.heap[c]?) →
      ∃ v', Four w' b o (x.repl k m) v' ∧ Sep w' (fun c => S c ∨ M c) v' (x.repl k m).ks := by
  induction h with
  | here b o x =>
    intro S v hs h4 _ _ _
    rw [Nd.repl_zero]
    exact ⟨vm, hm4, hms.mono (fun c hc => .inr hc)⟩
  | kid b o x bl ol c i hi hc k b' o' y h ih =>
    intro S v hs h4 hSb hMS hA
    have e := h4.2.2.2.symm.trans hc
    rcases hs.op with ⟨_, h0⟩ | ⟨bl', f, T, cur, rfl, hn, hS, hT, hTb, hd, hg, hcs, hf4, hk⟩
    · simp [h0] at hi
    · simp only [Option.some.injEq, Value.slice.injEq, Addr.mk.injEq] at e
      obtain ⟨⟨rfl, rfl, _⟩, _, _⟩ := e
      simp only [Nat.zero_add] at ih h
      obtain ⟨v', f4', sp'⟩ := ih hm4 hB hC (hk i hi) (hf4 i hi) (hTb i) (fun c hc hT' => hMS c hc (hT i c hT')) (fun c hc hne => hA c (hc.elim (fun h => .inl (hT i c h)) (fun h => .inl (h ▸ hS))) hne)
      have hkk : k < x.ks[i].size := by rw [← x.ks[i].flat_len]; exact (List.getElem?_eq_some_iff.1 h.flat).1
      have hplace := h.block (hk i hi) (hf4 i hi)
      have hSb' : S b' := hplace.elim (fun h => h.1 ▸ hS) (fun h => hT i _ h.1)
      have hbb : b ≠ b' := fun e => hSb (e ▸ hSb')
      rw [show 1 + sizes (x.ks.take i) + k = 1 + (sizes (x.ks.take i) + k) by omega, Nd.repl_succ, repls_set _ _ _ _ hi hkk]
      refine ⟨.slice (some ⟨bl', 0, none⟩) (x.ks.set i (x.ks[i].repl k m)).length (x.ks.set i (x.ks[i].repl k m)).length, ?_, ?_⟩
      · have := h4.of_block (hA b (.inr rfl) hbb)
        rw [List.length_set]
        exact this
      · have row : ∃ cur', w'.heap[bl']? = some (.cells cur' 51 (0, 0)) ∧ cur'.size = cur.size := by
          by_cases e : bl' = b'
          · subst e; exact hC cur hg
          · exact ⟨cur, (hA bl' (.inl hS) e).trans hg, rfl⟩
        obtain ⟨cur', hg', hcs'⟩ := row
        have other : ∀ j, j ≠ i → ∀ hj : j < x.ks.length, Four w' bl' (j * 4) x.ks[j] (f j) := fun j hji hj => by
          by_cases e : bl' = b'
          · rcases hplace with ⟨_, rfl⟩ | ⟨hTi, _⟩
            · subst e
              have h0 := hf4 j hj
              refine ⟨(hB _ (by omega)).trans h0.1, (hB _ (by omega)).trans h0.2.1, (hB _ (by omega)).trans h0.2.2.1, (hB _ (by omega)).trans h0.2.2.2⟩
            · exact absurd (e ▸ hTi) (hTb i)
          · exact (hf4 j hj).of_block (hA bl' (.inl hS) e)
        refine .row _ bl' (x.ks.set i (x.ks[i].repl k m)) (fun j => if j = i then v' else f j) (fun j c => if j = i then (T i c ∨ M c) else T j c) cur' (by simpa using hn) (.inl hS) ?_ ?_ ?_ hg' (by rw [hcs', hcs, List.length_set]) ?_ ?_
        · intro j c hc
          by_cases e : j = i
          · rw [if_pos e] at hc; exact hc.elim (fun h => .inl (hT i c h)) .inr
          · rw [if_neg e] at hc; exact .inl (hT j c hc)
        · intro j hc
          by_cases e : j = i
          · rw [if_pos e] at hc; exact hc.elim (hTb i) (fun h => hMS bl' h hS)
          · rw [if_neg e] at hc; exact hTb j hc
        · intro j j' c hne h1 h2
          by_cases e : j = i
          · rw [if_pos e] at h1
            rw [if_neg (by omega)] at h2
            exact h1.elim (fun h => hd i j' c (by omega) h h2) (fun h => hMS c h (hT j' c h2))
          · rw [if_neg e] at h1
            by_cases e' : j' = i
            · rw [if_pos e'] at h2
              exact h2.elim (fun h => hd j i c (by omega) h1 h) (fun h => hMS c h (hT j c h1))
            · rw [if_neg e'] at h2; exact hd j j' c hne h1 h2
        · intro j hj
          have hj' : j < x.ks.length := by simpa using hj
          by_cases e : j = i
          · subst e; simpa using f4'
          · simp only [e, if_false, List.getElem_set, if_neg (show ¬ i = j by omega)]
            exact other j e hj'
        · intro j hj
          have hj' : j < x.ks.length := by simpa using hj
          by_cases e : j = i
          · subst e; simpa using sp'
          · simp only [e, if_false, List.getElem_set, if_neg (show ¬ i = j by omega)]
            refine (hk j hj').keep (fun c hc hl => hA c (.inl (hT j c hc)) (fun ec => ?_))
            subst ec
            rcases hplace with ⟨h1, _⟩ | ⟨hTi, _⟩
            · exact hTb j (h1 ▸ hc)
            · exact hd j i _ e hc hTi
attribute [local go_sem] Oper.semAt_some

theorem four_set4 {W : World} {b o : Nat} {cur : Array Value} {t : TypeId} (h : W.heap[b]? = some (.cells cur t (0, 0))) (hs : o + 4 ≤ cur.size) (m : Nd) (v : Value) :
    Four ((((W.setCell ⟨b, o, none⟩ (.int .i64 m.k)).setCell ⟨b, o + 1, none⟩ (.string m.t)).setCell ⟨b, o + 2, none⟩ (.int .i64 m.n)).setCell ⟨b, o + 3, none⟩ v) b o m v := by
  have C := fun j => set4_cell (o := o) (n := 0) (.int .i64 m.k) (.string m.t) (.int .i64 m.n) v h j
  refine ⟨?_, ?_, ?_, ?_⟩ <;> (rw [C]; simp only [Array.getElem?_setIfInBounds, Array.size_setIfInBounds]) <;> simp <;> omega
theorem cell_set4 {W : World} {b o : Nat} {cur : Array Value} {t : TypeId} (h : W.heap[b]? = some (.cells cur t (0, 0))) (p q r s : Value) (j : Nat) (hj : ¬ (o ≤ j ∧ j < o + 4)) :
    ((((W.setCell ⟨b, o, none⟩ p).setCell ⟨b, o + 1, none⟩ q).setCell ⟨b, o + 2, none⟩ r).setCell ⟨b, o + 3, none⟩ s).cell? ⟨b, j, none⟩ = W.cell? ⟨b, j, none⟩ := by
  rw [set4_cell (n := 0) p q r s h j, cell_of_row W b _ _ _ _ h]
  simp only [Array.getElem?_setIfInBounds]
  rw [if_neg (by omega), if_neg (by omega), if_neg (by omega), if_neg (by omega)]

/-- a tree in a cell of its own. -/
structure Bx (W : World) (p : Nat) (x : Nd) (a : Option Addr) (c : Nat) : Prop where
  h : W.heap[p]? = some (.cells #[.int .i64 x.k, .string x.t, .int .i64 x.n, .slice a x.ks.length c] 51 (0, 0))
theorem Bx.bel {W W' : World} {p : Nat} {x : Nd} {a : Option Addr} {c : Nat} (h : Bx W p x a c) (b : Below W.heap.size W W') : Bx W' p x a c := ⟨(b.block p (Array.getElem?_eq_some_iff.1 h.h).1).trans h.h⟩
theorem Bx.new (W : World) (x : Nd) (a : Option Addr) (c : Nat) : Bx (W.alloc (Obj.cells #[.int .i64 x.k, .string x.t, .int .i64 x.n, .slice a x.ks.length c] 51)) W.heap.size x a c := ⟨hnew _ rfl⟩
theorem Bx.cs {W : World} {p : Nat} {x : Nd} {a : Option Addr} {c : Nat} (h : Bx W p x a c) : W.cell? ⟨p, 0, none⟩ = some (.int .i64 x.k) ∧ W.cell? ⟨p, 1, none⟩ = some (.string x.t) ∧ W.cell? ⟨p, 2, none⟩ = some (.int .i64 x.n) ∧ W.cell? ⟨p, 3, none⟩ = some (.slice a x.ks.length c) := (box4 h.h).1
theorem Bx.fr {W : World} {p : Nat} {x : Nd} {a : Option Addr} {c : Nat} (h : Bx W p x a c) : W.frozen? ⟨p, 0, none⟩ = false ∧ W.frozen? ⟨p, 1, none⟩ = false ∧ W.frozen? ⟨p, 2, none⟩ = false ∧ W.frozen? ⟨p, 3, none⟩ = false := (box4 h.h).2
theorem Bx.lt {W : World} {p : Nat} {x : Nd} {a : Option Addr} {c : Nat} (h : Bx W p x a c) : p < W.heap.size := (Array.getElem?_eq_some_iff.1 h.h).1
end Go.Proofs.YtpnljjcdlkjfhaaGreatDoor
