/- Own text. Package cursor: names that may not stand twice. -/
import Derived.Test.YtmfgcaffdkakhaaGreatC4
namespace Go.Proofs.YtmfgcaffdkakhaaGreat
open Go.RowKit Go.Maps
set_option linter.unusedVariables false
set_option linter.unusedSimpArgs false

theorem lawS : Keyed Tryz.prog 9 := string_keyed Tryz.underlying9
theorem keyS {s : ByteArray} (hs : s.size ≤ 281474976710656) : keyOf Tryz.prog 9 (.string s) = some (.string s.data.toList) := by
  have : s.size ≤ maxLen := by unfold maxLen; omega
  simp [keyOf, Tryz.underlying9, mapKey, this]
/-- how a value of no cells reads. -/
def uElem : Value → Option (DataW Unit × List MemPlace)
  | .agg cs => if cs.size = 0 then some (.lit (.bool true), []) else none
  | _ => none
theorem uElem_inv {v : Value} {z : DataW Unit × List MemPlace} (h : uElem v = some z) : v = .agg #[] := by
  unfold uElem at h
  split at h
  · split at h
    · rename_i cs h0
      rw [Array.size_eq_zero_iff.1 h0]
    · cases h
  · cases h
theorem zeroU (w : World) : (zeroValue 93).run Tryz.prog w = .ok (.agg #[]) w := by kernel_rfl
/-- a map of names in memory. -/
def NM (w : World) (M : Nat) (ns : List (List UInt8)) : Prop := ∃ D : DataW Unit, w.ownsMap Tryz.prog 9 uElem M ns.length D ∧ ∀ k, Maps.has D (.string k) = decide (k ∈ ns)
theorem NM.lt {w : World} {M : Nat} {ns : List (List UInt8)} (h : NM w M ns) : M < w.heap.size := let ⟨_, h, _⟩ := h; h.lt
theorem NM.keep {w w' : World} {M : Nat} {ns : List (List UInt8)} (h : NM w M ns) (e : w'.heap[M]? = w.heap[M]?) : NM w' M ns := by
  obtain ⟨D, ⟨es, clock, hb, r⟩, h2⟩ := h
  exact ⟨D, ⟨es, clock, e.trans hb, r⟩, h2⟩
theorem NM.nil (w : World) : NM (w.alloc (.map #[] 0)) w.heap.size [] := ⟨_, World.ownsMap_made w Tryz.prog 9 uElem, fun k => by simp [Maps.has]⟩
theorem NM.look {w : World} {M : Nat} {ns : List (List UInt8)} (h : NM w M ns) {s : ByteArray} (hs : s.size ≤ 281474976710656) : (Instr.lookup 89 (.map (some M)) (.string s) true).run Tryz.prog w = .ok (.tuple #[.agg #[], .bool (decide (s.data.toList ∈ ns))]) w := by
  obtain ⟨D, h1, h2⟩ := h
  obtain ⟨v, ps, hrun, hv⟩ := h1.look_ok lawS Tryz.underlying89 (zeroU w) (zd := .lit (.bool true)) (zp := []) rfl (keyS hs)
  rw [hrun, uElem_inv hv, h2]
/-- a name that may not stand again: the place is told ahead of all else. -/
def addR (L : List Tok) (ns : List (List UInt8)) (a : Nat) : Rs (List (List UInt8)) := if (tokA L a).t.data.toList ∈ ns then .bad a 60 else .ok (ns ++ [(tokA L a).t.data.toList]) a
def AnsA (P : Pl) (L : List Tok) (o : Ex) (M : Nat) (w : World) (r : Rs (List (List UInt8))) (e : Ending) (w' : World) : Prop := match r with
  | .ok ns a => e = .returned (.tuple #[]) ∧ Rd w' P L a o ∧ NM w' M ns ∧ KeptR M w w'
  | .bad p er => Gave p er e ∧ KeptR M w w'
theorem KeptR.grown {M : Nat} {w w' : World} (h : w.grownBy w' (some M)) : KeptR M w w' := ⟨h.os, h.tape, h.output, h.size, fun k hk hb => h.block k hk (fun e => hb (by injection e))⟩
set_option maxRecDepth 100000 in
set_option maxHeartbeats 4000000 in
theorem add_any {w : World} {P : Pl} {L : List Tok} {a : Nat} {o : Ex} {M : Nat} {ns : List (List UInt8)} (h : Rd w P L a o) (hm : NM w M ns) (hR : P.R ≠ M) (hb : 0 < L.length → P.bl ≠ M) (hs : Small L) (hn : ns.length ≤ 4194304) :
    Calls Tryz.prog 94 #[.pointer (some ⟨P.R, 0, none⟩), .map (some M)] w (AnsA P L o M w (addR L ns a)) := by
  have C1 := token_any h
  have hsz := hs.at a
  have hM0 := hm.lt
  have HL : Hid (∀ W, Below w.heap.size w W → NM W M ns) := fun W b => hm.keep (b.block M hM0)
  have hR0 := h
  unfold addR
  generalize tokA L a = x at *
  have hf := fld1 (.int .i64 x.k) (.string x.t) (.int .i64 x.n) (.int .i64 x.p)
  unfold Tok.v at C1
  have hk := keyS (s := x.t) (by omega)
  by_cases hq : x.t.data.toList ∈ ns
  · rw [if_pos hq]
    unfold AnsA
    go_enter Tryz.func94, Tryz.ntmps94
    go_wp2_with (first
      | (go_at_call 62; refine C1.mono ?_; rintro e W1 ⟨rfl, b1⟩; have hlk := (HL.out _ b1).look (s := x.t) (by omega); rw [decide_eq_true hq] at hlk; have r1 := (hR0.bel b1).bel ((Below.refl _ _).alloc (Nat.le_refl _) (.cells #[] 93)))
      | (go_at_call 58; refine (wrong_any r1).mono ?_; rintro e W2 ⟨rfl, b2⟩))
    exact ⟨rfl, rfl, (KeptR.of b1).trans ((KeptR.of ((Below.refl _ _).alloc (Nat.le_refl _) _)).trans (.of b2))⟩
  · rw [if_neg hq]
    unfold AnsA
    obtain ⟨D, hD1, hD2⟩ := hm
    have HD : Hid (∀ W, Below w.heap.size w W → W.ownsMap Tryz.prog 9 uElem M ns.length D) := fun W b => by
      obtain ⟨es, clock, hb', r⟩ := hD1
      exact ⟨es, clock, (b.block M hM0).trans hb', r⟩
    clear hD1
    go_enter Tryz.func94, Tryz.ntmps94
    go_wp2_with (first
      | (go_at_call 62; refine C1.mono ?_; rintro e W1 ⟨rfl, b1⟩; have hlk := (HL.out _ b1).look (s := x.t) (by omega); rw [decide_eq_false hq] at hlk; have b2 := b1.alloc b1.size (.cells #[] 93))
      | (at_mapUpdate; refine wpList_mapUpdate_own _ rfl _ _ _ 89 rfl 9 93 lawS Tryz.underlying89 uElem M ns.length D rfl (HD.out _ b2) (by unfold maxLen; omega) _ _ _ rfl rfl hk (.lit (.bool true)) [] rfl ?_; intro W3 h3 g3))
    first
      | go_end0
      | refine bodyPost_ret (results_none rfl _ _ _) rfl ?_
    have hx : Maps.IsMap D := (HD.out _ b1).isMap
    have r2 := hR0.bel b2
    refine ⟨rfl, r2.keep g3.size (g3.block _ r2.lt (fun e => hR (by injection e))) (fun q => g3.block _ (r2.x.lt q) (fun e => hb q (by injection e))), ⟨_, by simpa using h3, fun k => ?_⟩, (KeptR.of b2).trans (.grown g3)⟩
    by_cases hkx : k = x.t.data.toList
    · subst hkx
      rw [Maps.has_put_same hx (lawS.key (by trivial))]
      simp
    · rw [Maps.has_put_other (by intro e; injection e with e; exact hkx e), hD2]
      simp [hkx]
end Go.Proofs.YtmfgcaffdkakhaaGreat
