/- Own text. ParseBegins: the walk. -/
import Derived.Test.YtmmonfhlndbjhaaU3
import Derived.Test.YtmmonfhlndbjhaaM5
import Derived.Test.YtmmonfhlndbjhaaYA
namespace Go.Proofs.Ytmmonfhlndbjhaa
open Go.RowKit
set_option linter.unusedVariables false
set_option linter.unusedSimpArgs false
set_option maxRecDepth 100000

theorem lex_bounds (s : ByteArray) (hs : s.size ≤ 1048576) : ∀ ts, lexL 0 s.data.toList true = .ok ts → ts.length ≤ 4194304 ∧ ∀ x ∈ ts, x.1.2.1.length ≤ 4194304 := by
  intro ts h
  have e : s.data.toList.length = s.size := rfl
  obtain ⟨h1, h2⟩ := lex_said _ 0 _ true ts (Nat.le_refl _) h
  refine ⟨by omega, fun x hx => ?_⟩
  have := (h2 x.1 (List.mem_map.2 ⟨x, hx, rfl⟩)).1
  omega
theorem TkV.cut {w : World} {ta : Option Addr} {n tc : Nat} {L : List Tok} (h : TkV w (.slice ta n tc) L) {m : Nat} (hm : m ≤ L.length) : TkV w (.slice ta m tc) (L.take m) := by
  obtain ⟨⟨ta', tc', bl, of, e, h1, h2, h3⟩, h4, h5⟩ := h
  cases e
  have hl : (L.take m).length = m := by simp; omega
  refine ⟨⟨ta, tc, bl, of, by rw [hl], fun h => h1 (by omega), ⟨fun h => h2.lt (by omega), fun i hi => ?_⟩, by omega⟩, by omega, fun x hx => h5 x (List.mem_of_mem_take hx)⟩
  have := h2.c i (by omega)
  simpa using this
theorem face_bd (L : List Tok) : ∃ x p e, readP L (stmtF L (fuelL L)) 0 = ⟨x, p, e⟩ ∧ p ≤ L.length ∧ (e = 0 ∨ e = 60 ∨ e = 2) := by
  rw [read0]
  have := (bd_all L (fuelL L)).stmt' 0 0 (by omega)
  cases h : stmtF L (fuelL L) 0 0 with
  | ok x b => rw [h] at this; exact ⟨_, _, _, rfl, this, .inl rfl⟩
  | bad p e => rw [h] at this; exact ⟨_, _, _, rfl, this.1, by have := this.2; omega⟩
set_option maxHeartbeats 4000000 in
theorem walk (s : ByteArray) (n : Int) (w : World) (hs : s.size ≤ 1048576) (hn1 : -9223372036854775808 ≤ n) (hn2 : n ≤ 9223372036854775807) :
    Calls Try.prog 4 #[.string s, .int .i64 n] w fun e w' => e = .returned (.bool true) ∧ Below w.heap.size w w' := by
  have T1 := fun W => tokens_any s W (by omega) (lex_bounds s hs)
  have SU := fun W => sure_any W
  have FS : Hid (∀ (L : List Tok) (W : World) (v : Value), TkV W v L → Calls Try.prog 11 #[v, .int .i64 0] W (AnsF W (readP L (stmtF L (fuelL L)) 0))) := fun L W v h => faceStmt L W v 0 h (by omega)
  generalize srcT s.data.toList = L at *
  go_enter Try.func4, Try.ntmps4
  go_wp2_with fail
  go_at_call 7
  refine (T1 _).mono ?_
  rintro e W1 ⟨⟨v1, rfl, t1⟩, b1⟩
  go_wp2_with fail
  go_at_call 11
  refine (FS.out _ _ _ t1).mono ?_
  rintro e W2 ⟨ad2, c2, rfl, _, b2⟩
  obtain ⟨x, p, er, hr, hp, he⟩ := face_bd L
  rw [hr]
  dsimp only
  obtain ⟨⟨ta, tc, bl, of, rfl, h1, h2, h3⟩, h4, h5⟩ := id t1
  by_cases h0 : er = 0
  · subst h0
    have hp2 : p ≤ 4194304 := by omega
    have hq : Hid (p ≤ L.length) := hp
    have bel_n : ∀ o, Below W2.heap.size W2 (W2.alloc o) := fun o => (Below.refl _ _).alloc (Nat.le_refl _) o
    have bel1 : Hid (∀ o, Below w.heap.size w (W2.alloc o)) := fun o => b1.trans ((b2.mono b1.size).trans ((bel_n o).mono (Nat.le_trans b1.size b2.size)))
    have t2 : Hid (∀ o, TkV (W2.alloc o) (.slice ta L.length tc) L) := fun o => ⟨⟨ta, tc, bl, of, rfl, h1, h2.bel (b2.trans ((bel_n o).mono b2.size)), h3⟩, h4, h5⟩
    clear T1 t1 b1 b2
    go_wp2_with fail
    have hm0 : 0 ≤ max 0 (min n ((p : Int) - 1)) := by omega
    have hm1 : max 0 (min n ((p : Int) - 1)) ≤ p := by omega
    generalize max 0 (min n ((p : Int) - 1)) = m at *
    go_at_call 11
    refine (FS.out _ _ _ ((t2.out _).cut (m := m.toNat) (by have := hq.out; omega))).mono ?_
    rintro e W3 ⟨ad3, c3, rfl, _, b3⟩
    obtain ⟨x3, p3, er3, hr3, hp3, he3⟩ := face_bd (L.take m.toNat)
    rw [hr3]
    dsimp only
    have hp4 : (p3 : Int) ≤ m := by simp at hp3; omega
    have b4 : Hid (∀ o, Below w.heap.size w (W3.alloc o)) := fun o => ((bel1.out _).trans (b3.mono (bel1.out _).size)).trans (((Below.refl W3.heap.size W3).alloc (Nat.le_refl _) o).mono (Nat.le_trans (bel1.out _).size b3.size))
    clear hr hr3 h1 h2 h3 h5 hp3 hp b3
    have hk : decide ((p3 : Int) ≤ m) = true := decide_eq_true hp4
    rcases he3 with rfl | rfl | rfl
    all_goals
      go_wp2_with fail
      go_at_call 10
      refine (SU _).mono ?_
      rintro e W5 ⟨rfl, b5⟩
      have b6 : Hid (Below w.heap.size w W5) := (b4.out _).trans (b5.mono (b4.out _).size)
      clear b5
      go_wp2
      go_ret
      exact ⟨rfl, b6.out⟩
  · have hz : (er != 0) = true := by simp [h0]
    have bel_n : ∀ o, Below W2.heap.size W2 (W2.alloc o) := fun o => (Below.refl _ _).alloc (Nat.le_refl _) o
    have bel1 : Hid (∀ o, Below w.heap.size w (W2.alloc o)) := fun o => b1.trans ((b2.mono b1.size).trans ((bel_n o).mono (Nat.le_trans b1.size b2.size)))
    clear T1 t1 b1 b2
    go_wp2_with fail
    go_at_call 10
    refine (SU _).mono ?_
    rintro e W5 ⟨rfl, b5⟩
    have b6 : Hid (Below w.heap.size w W5) := (bel1.out _).trans (b5.mono (bel1.out _).size)
    clear b5
    go_wp2
    go_ret
    exact ⟨rfl, b6.out⟩
end Go.Proofs.Ytmmonfhlndbjhaa
