/- Own text. ValueApart: the statement's walk, over what package value must answer. -/
import Derived.Test.YtlijplbaefaeaaaDoorVa8
import Derived.Test.YtlijplbaefaeaaaDoorVq
import Derived.Deep.DeepCutAuto
namespace Go.Proofs.YtlijplbaefaeaaaDoor
open Go.RowKit
set_option linter.unusedVariables false
set_option linter.unusedSimpArgs false

theorem wrap_small (n : Int) (h0 : 0 ≤ n) (h : n < 9223372036854775808) : IntKind.i64.wrap n = n := by
  have e : (2 : Int) ^ 64 = 18446744073709551616 := by decide
  have e' : (2 : Int) ^ (64 - 1) = 9223372036854775808 := by decide
  simp only [IntKind.wrap, IntKind.bits, IntKind.signed, Bool.true_and, e, e']
  rw [Int.emod_eq_of_lt h0 (by omega), if_neg (by simp; omega)]
theorem NsA.one {W : World} (s : ByteArray) : NsA (W.alloc (.cells #[.string s] 9)) (fun b => b = W.heap.size) (.slice (some ⟨W.heap.size, 0, none⟩) 1 1) [s] := by
  refine ⟨_, _, rfl, fun _ => ⟨W.heap.size, 0, rfl, rfl, by simp, fun i hi => ?_⟩⟩
  obtain rfl : i = 0 := by simpa using hi
  rw [Nat.zero_add, cell_of_row _ _ _ _ _ _ (hnw _ rfl)]
  rfl
set_option maxRecDepth 100000 in
set_option maxHeartbeats 16000000 in
theorem apart_walk {Ev : World → Prop} {At : World → Nat → Hp → (Nat → Prop) → Prop} (PV : PrgV Ev At) (l : List Vl) (v0 : Value) (s : ByteArray) (x : Vl) (W : World) (he : Ev W) (hv : VsA W (fun b => b < W.heap.size) v0 l) (hl : l.length ≤ 1048576) (ho : ∀ y ∈ l, okV y) (hx : okV x) (hss : s.size ≤ 140737488355328) : Calls Tryd.prog 5 #[v0, .string s, x.v] W fun e W' => e = .returned (.bool true) ∧ Below W.heap.size W W' := by
  obtain ⟨a0, c0, rfl, hsrc⟩ := hv
  have HV : Hid (∀ Y, Below W.heap.size W Y → VsA Y (fun b => b < W.heap.size) (.slice a0 l.length c0) l) := fun Y k => ⟨a0, c0, rfl, fun h0 => by
    obtain ⟨b, o, e1, hd, hlt, hc⟩ := hsrc h0
    exact ⟨b, o, e1, hd, Nat.lt_of_lt_of_le hlt k.size, fun i hi => ⟨(World.cell?_of_block (a := ⟨b, o + i * 3, none⟩) (k.block b hlt)).trans (hc i hi).1, (World.cell?_of_block (a := ⟨b, o + i * 3 + 1, none⟩) (k.block b hlt)).trans (hc i hi).2.1, (World.cell?_of_block (a := ⟨b, o + i * 3 + 2, none⟩) (k.block b hlt)).trans (hc i hi).2.2⟩⟩⟩
  have HE : Hid (Ev W) := he
  have HP : Hid (PrgV Ev At) := PV
  have HO : Hid (∀ y ∈ l, okV y) := ho
  have HX : Hid (okV x) := hx
  have CN := PV.new (W.alloc (.cells #[.int .i64 x.kd, .int .i64 x.n, .string x.tx] 23))
  have CA : Hid (∀ Y, Ev Y → Calls Tryd.prog 16 #[] Y fun e W' => e = .returned (.bool true) ∧ Below Y.heap.size Y W') := fun Y hE => awake_any PV Y hE
  clear he PV ho hx hsrc
  unfold Vl.v
  go_enter Tryd.func5, Tryd.ntmps5
  go_wp2_with fail
  go_at_call 7
  refine CN.mono ?_
  rintro e W1 ⟨hb, S1, rfl, hA1, b1, hS1⟩
  clear CN
  have hs : Hid (AwS At W hb [(W.heap.size, x)] [] S1 W1) := ⟨hA1, fun p hp => by
    rw [List.mem_singleton] at hp
    subst hp
    have m := hnw (w := W) (.cells #[.int .i64 x.kd, .int .i64 x.n, .string x.tx] 23) rfl
    exact ⟨(b1.block _ (glt m)).trans m, fun q => by have := hS1 _ q; simp at this; omega⟩, (belA W _).trans (b1.mono (by simp)), fun b h => by have := hS1 b h; simp at this; omega⟩
  clear hA1 b1 hS1
  go_wp2_with fail
  go_at_call 16
  refine (CA.out _ (HP.out.ev HE.out hs.out.b)).mono ?_
  rintro e W2 ⟨rfl, b⟩
  have hs := AwS.bel HP hs b
  clear b
  go_wp2_with fail
  have C : Calls Tryd.prog 19 #[.pointer (some ⟨hb, 0, none⟩), .slice a0 l.length c0] W2 (Chg At hb S1 W2 (.agg #[.int .i64 5, .int .i64 0, .string ⟨#[]⟩]) [arrT l]) := HP.out.arr (fun b => b < W.heap.size) _ l hs.out.a sm_0 HO.out (by omega) (HV.out _ hs.out.b) (fun b h q => by have := hs.out.s b q; omega)
  go_at_call 19
  refine C.mono ?_
  rintro e W3 ⟨rfl, S3, hA, k, sub⟩
  have hs := AwS.chg HP hs hA k sub
  clear C hA k sub
  go_wp2_with fail
  have C : Calls Tryd.prog 19 #[.pointer (some ⟨hb, 0, none⟩), .slice a0 l.length c0] W3 (Chg At hb S3 W3 (.agg #[.int .i64 5, .int .i64 1, .string ⟨#[]⟩]) [arrT l, arrT l]) := HP.out.arr (fun b => b < W.heap.size) _ l hs.out.a ⟨by simp, fun t ht => by simp at ht; subst ht; simp [arrT]; omega⟩ HO.out (by omega) (HV.out _ hs.out.b) (fun b h q => by have := hs.out.s b q; omega)
  go_at_call 19
  refine C.mono ?_
  rintro e W4 ⟨rfl, S4, hA, k, sub⟩
  have h4 := AwS.box HP (AwS.box HP (AwS.chg HP hs hA k sub) wA) wB
  clear C hA k sub hs
  have hs : Hid (AwS At W hb [(W4.heap.size + 1, wB), (W4.heap.size, wA), (W.heap.size, x)] [arrT l, arrT l] S4 ((W4.alloc (.cells #[.int .i64 5, .int .i64 0, .string ⟨#[]⟩] 23)).alloc (.cells #[.int .i64 5, .int .i64 1, .string ⟨#[]⟩] 23))) := by
    have e : (W4.alloc (.cells #[.int .i64 5, .int .i64 0, .string ⟨#[]⟩] 23)).heap.size = W4.heap.size + 1 := by simp
    rw [← e]
    exact h4
  have Z4 : Hid (((W4.alloc (.cells #[.int .i64 5, .int .i64 0, .string ⟨#[]⟩] 23)).alloc (.cells #[.int .i64 5, .int .i64 1, .string ⟨#[]⟩] 23)).heap.size = W4.heap.size + 2) := by show _ = _; simp
  clear h4
  go_wp2_with fail
  generalize (W4.alloc (.cells #[.int .i64 5, .int .i64 0, .string ⟨#[]⟩] 23)).alloc (.cells #[.int .i64 5, .int .i64 1, .string ⟨#[]⟩] 23) = X4 at *
  have sm2 : smH [arrT l, arrT l] := ⟨by simp, fun t ht => by simp at ht; subst ht; simp [arrT]; omega⟩
  have sm3 : smH [arrT l, arrT l, eO] := ⟨by simp, fun t ht => by simp at ht; rcases ht with rfl | rfl <;> simp [arrT, eO] <;> omega⟩
  have Hsm2 : Hid _ := sm2
  have Hsm3 : Hid (smH [arrT l, arrT l, eO]) := sm3
  have C : Calls Tryd.prog 20 #[.pointer (some ⟨hb, 0, none⟩), .slice none 0 0, .slice none 0 0] X4 (Chg At hb S4 X4 (.agg #[.int .i64 6, .int .i64 2, .string ⟨#[]⟩]) [arrT l, arrT l, eO]) := HP.out.obj (fun b => False) _ _ [] [] hs.out.a sm2 (fun y hy => by cases hy) (fun y hy => by cases hy) (by simp) (by simp) ⟨none, 0, rfl, fun h => by simp at h⟩ ⟨none, 0, rfl, fun h => by simp at h⟩ (fun b h => h.elim)
  clear sm2 sm3
  go_at_call 20
  refine C.mono ?_
  rintro e W5 ⟨rfl, S5, hA, k, sub⟩
  have hs := AwS.chg HP hs hA k sub
  clear C hA k sub
  go_wp2_with fail
  have h5 := AwS.bel HP hs (belA W5 (.cells #[.string s] 9))
  have C : Calls Tryd.prog 20 #[.pointer (some ⟨hb, 0, none⟩), .slice (some ⟨W5.heap.size, 0, none⟩) 1 1, .slice a0 l.length c0] (W5.alloc (.cells #[.string s] 9)) (Chg At hb S5 (W5.alloc (.cells #[.string s] 9)) (.agg #[.int .i64 6, .int .i64 3, .string ⟨#[]⟩]) (hpA l s)) := by
    have h := HP.out.obj (fun b => b < W.heap.size ∨ b = W5.heap.size) (.slice (some ⟨W5.heap.size, 0, none⟩) 1 1) (.slice a0 l.length c0) [s] l h5.out.a Hsm3.out HO.out (fun y hy => by rw [List.mem_singleton] at hy; rw [hy]; exact hss) (by simp) (by omega) ((NsA.one s).mono (fun b h => .inr h)) ((HV.out _ h5.out.b).mono (fun b h => .inl h)) (fun b h q => by
      have := hs.out.s b q
      have := HP.out.lt hs.out.a b q
      omega)
    rw [show (⟨true, [], []⟩ : Th) = eO from rfl, a_obj] at h
    exact h
  go_at_call 20
  refine C.mono ?_
  rintro e W6 ⟨rfl, S6, hA, k, sub⟩
  have h6 := AwS.box HP (AwS.box HP (AwS.chg HP h5 hA k sub) wP) wQ
  clear C hA k sub hs h5
  have hs : Hid (AwS At W hb [(W6.heap.size + 1, wQ), (W6.heap.size, wP), (W4.heap.size + 1, wB), (W4.heap.size, wA), (W.heap.size, x)] (hpA l s) S6 ((W6.alloc (.cells #[.int .i64 6, .int .i64 2, .string ⟨#[]⟩] 23)).alloc (.cells #[.int .i64 6, .int .i64 3, .string ⟨#[]⟩] 23))) := by
    have e : (W6.alloc (.cells #[.int .i64 6, .int .i64 2, .string ⟨#[]⟩] 23)).heap.size = W6.heap.size + 1 := by simp
    rw [← e]
    exact h6
  clear h6
  go_upto_region 6 with fail
  generalize ((W6.alloc (.cells #[.int .i64 6, .int .i64 2, .string ⟨#[]⟩] 23)).alloc (.cells #[.int .i64 6, .int .i64 3, .string ⟨#[]⟩] 23)) = X6 at *
  obtain ⟨fa0, fa1, fa2⟩ := AwS.cell hs (W4.heap.size) wA (by simp)
  obtain ⟨fb0, fb1, fb2⟩ := AwS.cell hs (W4.heap.size + 1) wB (by simp)
  simp only [wA, wB] at fa0 fa1 fa2 fb0 fb1 fb2
  go_wp2_with fail
  clear fa0 fa1 fa2 fb0 fb1 fb2
  have C : ∀ Y, Calls Tryd.prog 14 #[.agg #[.int .i64 5, .int .i64 0, .string ⟨#[]⟩], .agg #[.int .i64 5, .int .i64 1, .string ⟨#[]⟩]] Y fun e W' => e = .returned (.bool false) ∧ Below Y.heap.size Y W' := fun Y => by
    have h := HP.out.sam wA wB Y (ok_w _ _ (by decide)) (ok_w _ _ (by decide))
    rw [show samV wA wB = false by decide] at h
    exact h
  go_at_call 14
  refine (C _).mono ?_
  rintro e W7 ⟨rfl, b⟩
  have hs := AwS.bel HP hs b
  clear C b
  obtain ⟨fp0, fp1, fp2⟩ := AwS.cell hs (W6.heap.size) wP (by simp)
  obtain ⟨fq0, fq1, fq2⟩ := AwS.cell hs (W6.heap.size + 1) wQ (by simp)
  simp only [wP, wQ] at fp0 fp1 fp2 fq0 fq1 fq2
  go_wp2_with fail
  clear fp0 fp1 fp2 fq0 fq1 fq2
  have C : ∀ Y, Calls Tryd.prog 14 #[.agg #[.int .i64 6, .int .i64 2, .string ⟨#[]⟩], .agg #[.int .i64 6, .int .i64 3, .string ⟨#[]⟩]] Y fun e W' => e = .returned (.bool false) ∧ Below Y.heap.size Y W' := fun Y => by
    have h := HP.out.sam wP wQ Y (ok_w _ _ (by decide)) (ok_w _ _ (by decide))
    rw [show samV wP wQ = false by decide] at h
    exact h
  go_at_call 14
  refine (C _).mono ?_
  rintro e W8 ⟨rfl, b⟩
  have hs := AwS.bel HP hs b
  clear C b
  obtain ⟨fa0, fa1, fa2⟩ := AwS.cell hs (W4.heap.size) wA (by simp)
  simp only [wA] at fa0 fa1 fa2
  go_wp2_with fail
  clear fa0 fa1 fa2
  have C : ∀ Y, Calls Tryd.prog 14 #[.agg #[.int .i64 5, .int .i64 0, .string ⟨#[]⟩], .agg #[.int .i64 5, .int .i64 0, .string ⟨#[]⟩]] Y fun e W' => e = .returned (.bool true) ∧ Below Y.heap.size Y W' := fun Y => by
    have h := HP.out.sam wA wA Y (ok_w _ _ (by decide)) (ok_w _ _ (by decide))
    rw [show samV wA wA = true by decide] at h
    exact h
  go_at_call 14
  refine (C _).mono ?_
  rintro e W9 ⟨rfl, b⟩
  have hs := AwS.bel HP hs b
  clear C b
  obtain ⟨fa0, fa1, fa2⟩ := AwS.cell hs (W4.heap.size) wA (by simp)
  obtain ⟨fx0, fx1, fx2⟩ := AwS.cell hs (W.heap.size) x (by simp)
  simp only [wA] at fa0 fa1 fa2
  go_wp2_with fail
  clear fa0 fa1 fa2 fx0 fx1 fx2
  have C : Calls Tryd.prog 21 #[.pointer (some ⟨hb, 0, none⟩), .agg #[.int .i64 5, .int .i64 0, .string ⟨#[]⟩], .agg #[.int .i64 x.kd, .int .i64 x.n, .string x.tx]] W9 (Chg At hb S6 W9 (.bool true) (hpB l s x)) := by
    have h := HP.out.psh wA x hs.out.a (sm_A hl) (ok_w _ _ (by decide)) HX.out
    rw [(a_psh l s x).1, (a_psh l s x).2] at h
    exact h
  go_at_call 21
  refine C.mono ?_
  rintro e W10 ⟨rfl, T10, hA, k, sub⟩
  have hs := AwS.chg HP hs hA k sub
  clear C hA k sub
  obtain ⟨fp0, fp1, fp2⟩ := AwS.cell hs (W6.heap.size) wP (by simp)
  obtain ⟨fx0, fx1, fx2⟩ := AwS.cell hs (W.heap.size) x (by simp)
  simp only [wP] at fp0 fp1 fp2
  go_wp2_with fail
  clear fp0 fp1 fp2 fx0 fx1 fx2
  have C : Calls Tryd.prog 22 #[.pointer (some ⟨hb, 0, none⟩), .agg #[.int .i64 6, .int .i64 2, .string ⟨#[]⟩], .string s, .agg #[.int .i64 x.kd, .int .i64 x.n, .string x.tx]] W10 (Chg At hb T10 W10 (.bool true) (hpC l s x)) := by
    have h := HP.out.set wP s x hs.out.a (sm_B hl) (ok_w _ _ (by decide)) HX.out hss
    rw [(a_set l s x).1, (a_set l s x).2] at h
    exact h
  go_at_call 22
  refine C.mono ?_
  rintro e W11 ⟨rfl, T11, hA, k, sub⟩
  have hs := AwS.chg HP hs hA k sub
  clear C hA k sub
  obtain ⟨fa0, fa1, fa2⟩ := AwS.cell hs (W4.heap.size) wA (by simp)
  simp only [wA] at fa0 fa1 fa2
  go_wp2_with fail
  clear fa0 fa1 fa2
  have C : Calls Tryd.prog 23 #[.pointer (some ⟨hb, 0, none⟩), .agg #[.int .i64 5, .int .i64 0, .string ⟨#[]⟩], .int .i64 (l.length : Nat)] W11 fun e W' => e = .returned (.tuple #[.agg #[.int .i64 x.kd, .int .i64 x.n, .string x.tx], .bool true]) ∧ Below W11.heap.size W11 W' := by
    have h := HP.out.at_ wA (l.length : Nat) hs.out.a (sm_C hl) (ok_w _ _ (by decide)) (by omega) (by omega)
    rw [a_at l s x l.length (Nat.le_refl _), List.getElem_concat_length rfl] at h
    exact h
  go_at_call 23
  refine C.mono ?_
  rintro e W12 ⟨rfl, b⟩
  have hn := AwS.box HP (AwS.bel HP hs b) x
  clear C b hs
  have hs : Hid (AwS At W hb [(W12.heap.size, x), (W6.heap.size + 1, wQ), (W6.heap.size, wP), (W4.heap.size + 1, wB), (W4.heap.size, wA), (W.heap.size, x)] (hpC l s x) T11 (W12.alloc (.cells #[.int .i64 x.kd, .int .i64 x.n, .string x.tx] 23))) := hn
  clear hn
  go_upto_region 9 with fail
  generalize (W12.alloc (.cells #[.int .i64 x.kd, .int .i64 x.n, .string x.tx] 23)) = X12 at *
  obtain ⟨fb0, fb1, fb2⟩ := AwS.cell hs (W4.heap.size + 1) wB (by simp)
  simp only [wB] at fb0 fb1 fb2
  go_wp2_with fail
  clear fb0 fb1 fb2
  have C : Calls Tryd.prog 23 #[.pointer (some ⟨hb, 0, none⟩), .agg #[.int .i64 5, .int .i64 1, .string ⟨#[]⟩], .int .i64 (l.length : Nat)] X12 fun e W' => e = .returned (.tuple #[.agg #[.int .i64 0, .int .i64 0, .string ⟨#[]⟩], .bool false]) ∧ Below X12.heap.size X12 W' := by
    have h := HP.out.at_ wB (l.length : Nat) hs.out.a (sm_C hl) (ok_w _ _ (by decide)) (by omega) (by omega)
    rw [a_atB] at h
    exact h
  go_at_call 23
  refine C.mono ?_
  rintro e W13 ⟨rfl, b⟩
  have hn := AwS.box HP (AwS.bel HP hs b) zV
  clear C b hs
  have hs : Hid (AwS At W hb [(W13.heap.size, zV), (W12.heap.size, x), (W6.heap.size + 1, wQ), (W6.heap.size, wP), (W4.heap.size + 1, wB), (W4.heap.size, wA), (W.heap.size, x)] (hpC l s x) T11 (W13.alloc (.cells #[.int .i64 0, .int .i64 0, .string ⟨#[]⟩] 23))) := hn
  clear hn
  go_upto_region 10 with fail
  generalize (W13.alloc (.cells #[.int .i64 0, .int .i64 0, .string ⟨#[]⟩] 23)) = X13 at *
  obtain ⟨fp0, fp1, fp2⟩ := AwS.cell hs (W6.heap.size) wP (by simp)
  simp only [wP] at fp0 fp1 fp2
  go_wp2_with fail
  clear fp0 fp1 fp2
  have C : Calls Tryd.prog 24 #[.pointer (some ⟨hb, 0, none⟩), .agg #[.int .i64 6, .int .i64 2, .string ⟨#[]⟩], .string s] X13 fun e W' => e = .returned (.tuple #[.agg #[.int .i64 x.kd, .int .i64 x.n, .string x.tx], .bool true]) ∧ Below X13.heap.size X13 W' := by
    have h := HP.out.get wP s hs.out.a (sm_C hl) (ok_w _ _ (by decide)) hss
    rw [a_getP] at h
    exact h
  go_at_call 24
  refine C.mono ?_
  rintro e W14 ⟨rfl, b⟩
  have hn := AwS.box HP (AwS.bel HP hs b) x
  clear C b hs
  have hs : Hid (AwS At W hb [(W14.heap.size, x), (W13.heap.size, zV), (W12.heap.size, x), (W6.heap.size + 1, wQ), (W6.heap.size, wP), (W4.heap.size + 1, wB), (W4.heap.size, wA), (W.heap.size, x)] (hpC l s x) T11 (W14.alloc (.cells #[.int .i64 x.kd, .int .i64 x.n, .string x.tx] 23))) := hn
  clear hn
  go_upto_region 11 with fail
  generalize (W14.alloc (.cells #[.int .i64 x.kd, .int .i64 x.n, .string x.tx] 23)) = X14 at *
  obtain ⟨fq0, fq1, fq2⟩ := AwS.cell hs (W6.heap.size + 1) wQ (by simp)
  simp only [wQ] at fq0 fq1 fq2
  obtain ⟨hq, ehq⟩ : ∃ v, (l.head?).getD zV = v := ⟨_, rfl⟩
  obtain ⟨ws, ews⟩ : ∃ v, l.head?.isSome = v := ⟨_, rfl⟩
  have HHQ : Hid ((l.head?).getD zV = hq) := ehq
  have HWS : Hid (l.head?.isSome = ws) := ews
  clear ehq ews
  go_wp2_with fail
  clear fq0 fq1 fq2
  have C : Calls Tryd.prog 24 #[.pointer (some ⟨hb, 0, none⟩), .agg #[.int .i64 6, .int .i64 3, .string ⟨#[]⟩], .string s] X14 fun e W' => e = .returned (.tuple #[.agg #[.int .i64 hq.kd, .int .i64 hq.n, .string hq.tx], .bool ws]) ∧ Below X14.heap.size X14 W' := by
    have h := HP.out.get wQ s hs.out.a (sm_C hl) (ok_w _ _ (by decide)) hss
    rw [a_getQ, optV, HHQ.out, HWS.out] at h
    exact h
  go_at_call 24
  refine C.mono ?_
  rintro e W15 ⟨rfl, b⟩
  have hn := AwS.box HP (AwS.bel HP hs b) hq
  clear C b hs
  have hs : Hid (AwS At W hb [(W15.heap.size, hq), (W14.heap.size, x), (W13.heap.size, zV), (W12.heap.size, x), (W6.heap.size + 1, wQ), (W6.heap.size, wP), (W4.heap.size + 1, wB), (W4.heap.size, wA), (W.heap.size, x)] (hpC l s x) T11 (W15.alloc (.cells #[.int .i64 hq.kd, .int .i64 hq.n, .string hq.tx] 23))) := hn
  clear hn
  go_upto_region 12 with fail
  generalize (W15.alloc (.cells #[.int .i64 hq.kd, .int .i64 hq.n, .string hq.tx] 23)) = X15 at *
  have CLa : Hid (∀ {S : Nat → Prop} {Y : World}, Hid (AwS At W hb [(W15.heap.size, hq), (W14.heap.size, x), (W13.heap.size, zV), (W12.heap.size, x), (W6.heap.size + 1, wQ), (W6.heap.size, wP), (W4.heap.size + 1, wB), (W4.heap.size, wA), (W.heap.size, x)] (hpC l s x) S Y) → Calls Tryd.prog 25 #[.pointer (some ⟨hb, 0, none⟩), .agg #[.int .i64 5, .int .i64 0, .string ⟨#[]⟩]] Y fun e W' => e = .returned (.int .i64 ((l.length : Int) + 1)) ∧ Below Y.heap.size Y W') := fun hh => by
    have h := HP.out.len wA hh.out.a (sm_C hl) (ok_w _ _ (by decide))
    rw [a_lenA] at h
    exact h
  have CLb : Hid (∀ {S : Nat → Prop} {Y : World}, Hid (AwS At W hb [(W15.heap.size, hq), (W14.heap.size, x), (W13.heap.size, zV), (W12.heap.size, x), (W6.heap.size + 1, wQ), (W6.heap.size, wP), (W4.heap.size + 1, wB), (W4.heap.size, wA), (W.heap.size, x)] (hpC l s x) S Y) → Calls Tryd.prog 25 #[.pointer (some ⟨hb, 0, none⟩), .agg #[.int .i64 5, .int .i64 1, .string ⟨#[]⟩]] Y fun e W' => e = .returned (.int .i64 (l.length : Nat)) ∧ Below Y.heap.size Y W') := fun hh => by
    have h := HP.out.len wB hh.out.a (sm_C hl) (ok_w _ _ (by decide))
    rw [a_lenB] at h
    exact h
  have HEx : Hid (ws = true → ∃ lb lo, a0 = some ⟨lb, lo, none⟩ ∧ 0 < l.length ∧ ∀ Y, Below W.heap.size W Y → (Y.cell? ⟨lb, lo, none⟩ = some (.int .i64 hq.kd) ∧ Y.cell? ⟨lb, lo + 1, none⟩ = some (.int .i64 hq.n) ∧ Y.cell? ⟨lb, lo + 2, none⟩ = some (.string hq.tx))) := fun hw => by
    have h0 : 0 < l.length := by
      cases l with
      | nil => have := HWS.out; rw [hw] at this; cases this
      | cons y r => simp
    have hq0 : l[0] = hq := by
      have := HHQ.out
      cases l with
      | nil => simp at h0
      | cons y r => simpa using this
    obtain ⟨a1, c1, e1, k1⟩ := HV.out W (Below.refl _ _)
    obtain ⟨lb, lo, e2, hd, hlt, hc⟩ := k1 h0
    injection e1 with e1 _ _
    have c := hc 0 h0
    rw [hq0] at c
    simp only [Nat.zero_mul, Nat.add_zero] at c
    exact ⟨lb, lo, e1.trans e2, h0, fun Y k => ⟨(World.cell?_of_block (a := ⟨lb, lo, none⟩) (k.block lb hlt)).trans c.1, (World.cell?_of_block (a := ⟨lb, lo + 1, none⟩) (k.block lb hlt)).trans c.2.1, (World.cell?_of_block (a := ⟨lb, lo + 2, none⟩) (k.block lb hlt)).trans c.2.2⟩⟩
  have HEn : Hid (ws = false → l.length = 0) := fun hw => by
    cases l with
    | nil => rfl
    | cons y r => have := HWS.out; rw [hw] at this; cases this
  have hwr : IntKind.i64.wrap ((l.length : Int) + 1) = (l.length : Int) + 1 := wrap_small _ (by omega) (by omega)
  go_cut [156] (fun u156 Y => u156 = .bool false ∧ Hid (AwS At W hb [(W15.heap.size, hq), (W14.heap.size, x), (W13.heap.size, zV), (W12.heap.size, x), (W6.heap.size + 1, wQ), (W6.heap.size, wP), (W4.heap.size + 1, wB), (W4.heap.size, wA), (W.heap.size, x)] (hpC l s x) T11 Y))
  case first =>
    have hs := AwS.bel HP hs ((Below.refl _ X15).drew)
    cases ws with
    | false =>
      have hz := HEn.out rfl
      have hgt : ¬ (0 : Int) < (l.length : Nat) := by omega
      have HNil : Hid (l = []) := List.length_eq_zero_iff.1 hz
      clear hz
      refine region_held (fun Y => (Y.cell? ⟨W12.heap.size, 0, none⟩ = some (.int .i64 x.kd) ∧ Y.cell? ⟨W12.heap.size, 1, none⟩ = some (.int .i64 x.n) ∧ Y.cell? ⟨W12.heap.size, 2, none⟩ = some (.string x.tx)) ∧ (Y.cell? ⟨W.heap.size, 0, none⟩ = some (.int .i64 x.kd) ∧ Y.cell? ⟨W.heap.size, 1, none⟩ = some (.int .i64 x.n) ∧ Y.cell? ⟨W.heap.size, 2, none⟩ = some (.string x.tx)) ∧ (Y.cell? ⟨W14.heap.size, 0, none⟩ = some (.int .i64 x.kd) ∧ Y.cell? ⟨W14.heap.size, 1, none⟩ = some (.int .i64 x.n) ∧ Y.cell? ⟨W14.heap.size, 2, none⟩ = some (.string x.tx)) ∧ (Y.cell? ⟨W15.heap.size, 0, none⟩ = some (.int .i64 hq.kd) ∧ Y.cell? ⟨W15.heap.size, 1, none⟩ = some (.int .i64 hq.n) ∧ Y.cell? ⟨W15.heap.size, 2, none⟩ = some (.string hq.tx)) ∧ (Y.cell? ⟨W4.heap.size, 0, none⟩ = some (.int .i64 5) ∧ Y.cell? ⟨W4.heap.size, 1, none⟩ = some (.int .i64 0) ∧ Y.cell? ⟨W4.heap.size, 2, none⟩ = some (.string ⟨#[]⟩)) ∧ (Y.cell? ⟨W4.heap.size + 1, 0, none⟩ = some (.int .i64 5) ∧ Y.cell? ⟨W4.heap.size + 1, 1, none⟩ = some (.int .i64 1) ∧ Y.cell? ⟨W4.heap.size + 1, 2, none⟩ = some (.string ⟨#[]⟩))) (by kernel_rfl) ⟨AwS.cell hs (W12.heap.size) x (by simp), AwS.cell hs (W.heap.size) x (by simp), AwS.cell hs (W14.heap.size) x (by simp), AwS.cell hs (W15.heap.size) hq (by simp), AwS.cell hs (W4.heap.size) wA (by simp), AwS.cell hs (W4.heap.size + 1) wB (by simp)⟩ (fun hS => ?_)
      refine tH 0 ?_
      simp only [List.set]
      refine tH 1 ?_
      simp only [List.set]
      refine tH 2 (v := .bool false) ?_
      simp only [List.set]
      refine tH 3 ?_
      simp only [List.set]
      refine tH 4 ?_
      simp only [List.set]
      refine tH 5 ?_
      simp only [List.set]
      refine tH 6 ?_
      simp only [List.set]
      refine tH 7 ?_
      simp only [List.set]
      refine tH 8 ?_
      simp only [List.set]
      refine tH 9 ?_
      simp only [List.set]
      refine tH 10 ?_
      simp only [List.set]
      refine tH 11 ?_
      simp only [List.set]
      refine tH 12 ?_
      simp only [List.set]
      refine tH 13 (v := .bool false) ?_
      simp only [List.set]
      refine tH 14 ?_
      simp only [List.set]
      refine tH 15 ?_
      simp only [List.set]
      refine tH 16 ?_
      simp only [List.set]
      refine tH 17 ?_
      simp only [List.set]
      refine tH 18 ?_
      simp only [List.set]
      refine tH 19 ?_
      simp only [List.set]
      refine tH 20 ?_
      simp only [List.set]
      refine tH 21 ?_
      simp only [List.set]
      refine tH 22 ?_
      simp only [List.set]
      refine tH 23 (v := .bool false) ?_ (hy := Or.inl ⟨by rfl, by intro w hSw; (try dsimp only at hSw); (try simp only [List.getElem_toArray, List.getElem_cons_zero, List.getElem_cons_succ]); go_simp; exact HNil.out⟩)
      simp only [List.set]
      refine tH 24 (v := .bool false) ?_
      simp only [List.set]
      refine tH 25 ?_
      simp only [List.set]
      refine tH 26 ?_
      simp only [List.set]
      refine tH 27 ?_
      simp only [List.set]
      refine tH 28 ?_
      simp only [List.set]
      refine tS 29 ?_
      simp only [List.set]
      refine tS 30 ?_
      simp only [List.set]
      refine tS 31 ?_
      simp only [List.set]
      refine tS 32 ?_
      simp only [List.set]
      refine tS 33 ?_
      simp only [List.set]
      refine tH 34 ?_
      simp only [List.set]
      refine tH 35 ?_
      simp only [List.set]
      refine tH 36 ?_
      simp only [List.set]
      refine tH 37 ?_
      simp only [List.set]
      refine tH 38 ?_
      simp only [List.set]
      refine tH 40 ?_
      simp only [List.set]
      refine tH 41 ?_
      simp only [List.set]
      refine tH 42 (v := .int .i64 ((l.length : Int) + 1)) ?_
      simp only [List.set]
      refine wpAnyH_ready (rs := [39]) (by kernel_rfl) (by simp) ?_
      refine AllReadyH.cons rfl (fun K hK => ?_) AllReadyH.nil
      go_simp
      go_at_call 25
      refine (CLa.out hs).mono ?_
      rintro e Y1 ⟨rfl, b⟩
      have hs1 := AwS.bel HP hs b
      refine hK.out _ _ ⟨AwS.cell hs1 (W12.heap.size) x (by simp), AwS.cell hs1 (W.heap.size) x (by simp), AwS.cell hs1 (W14.heap.size) x (by simp), AwS.cell hs1 (W15.heap.size) hq (by simp), AwS.cell hs1 (W4.heap.size) wA (by simp), AwS.cell hs1 (W4.heap.size + 1) wB (by simp)⟩ (fun hS => ?_)
      clear hK K b
      refine tH 43 (v := .bool false) ?_
      simp only [List.set]
      refine tH 44 ?_
      simp only [List.set]
      refine tH 45 ?_
      simp only [List.set]
      refine tH 46 ?_
      simp only [List.set]
      refine tH 47 ?_
      simp only [List.set]
      refine tH 49 ?_
      simp only [List.set]
      refine tH 50 ?_
      simp only [List.set]
      refine wpAnyH_ready (rs := [48]) (by kernel_rfl) (by simp) ?_
      refine AllReadyH.cons rfl (fun K hK => ?_) AllReadyH.nil
      go_simp
      go_at_call 25
      refine (CLb.out hs1).mono ?_
      rintro e Y2 ⟨rfl, b⟩
      have hs2 := AwS.bel HP hs1 b
      refine hK.out _ _ ⟨AwS.cell hs2 (W12.heap.size) x (by simp), AwS.cell hs2 (W.heap.size) x (by simp), AwS.cell hs2 (W14.heap.size) x (by simp), AwS.cell hs2 (W15.heap.size) hq (by simp), AwS.cell hs2 (W4.heap.size) wA (by simp), AwS.cell hs2 (W4.heap.size + 1) wB (by simp)⟩ (fun hS => ?_)
      clear hK K b
      refine tH 51 (v := .bool false) ?_
      simp only [List.set]
      refine tH 52 ?_
      simp only [List.set]
      refine wpAnyH_done (by kernel_rfl) ?_ _
      go_wp2
      go_meet
      exact ⟨rfl, hs2⟩
    | true =>
      obtain ⟨lb, lo, ea, h0, HLC⟩ := HEx.out rfl
      subst ea
      have hgt : (0 : Int) < (l.length : Nat) := by omega
      have HL : Hid (∀ Y, Below W.heap.size W Y → _) := HLC
      clear HLC
      refine region_held (fun Y => (Y.cell? ⟨W12.heap.size, 0, none⟩ = some (.int .i64 x.kd) ∧ Y.cell? ⟨W12.heap.size, 1, none⟩ = some (.int .i64 x.n) ∧ Y.cell? ⟨W12.heap.size, 2, none⟩ = some (.string x.tx)) ∧ (Y.cell? ⟨W.heap.size, 0, none⟩ = some (.int .i64 x.kd) ∧ Y.cell? ⟨W.heap.size, 1, none⟩ = some (.int .i64 x.n) ∧ Y.cell? ⟨W.heap.size, 2, none⟩ = some (.string x.tx)) ∧ (Y.cell? ⟨W14.heap.size, 0, none⟩ = some (.int .i64 x.kd) ∧ Y.cell? ⟨W14.heap.size, 1, none⟩ = some (.int .i64 x.n) ∧ Y.cell? ⟨W14.heap.size, 2, none⟩ = some (.string x.tx)) ∧ (Y.cell? ⟨W15.heap.size, 0, none⟩ = some (.int .i64 hq.kd) ∧ Y.cell? ⟨W15.heap.size, 1, none⟩ = some (.int .i64 hq.n) ∧ Y.cell? ⟨W15.heap.size, 2, none⟩ = some (.string hq.tx)) ∧ (Y.cell? ⟨W4.heap.size, 0, none⟩ = some (.int .i64 5) ∧ Y.cell? ⟨W4.heap.size, 1, none⟩ = some (.int .i64 0) ∧ Y.cell? ⟨W4.heap.size, 2, none⟩ = some (.string ⟨#[]⟩)) ∧ (Y.cell? ⟨W4.heap.size + 1, 0, none⟩ = some (.int .i64 5) ∧ Y.cell? ⟨W4.heap.size + 1, 1, none⟩ = some (.int .i64 1) ∧ Y.cell? ⟨W4.heap.size + 1, 2, none⟩ = some (.string ⟨#[]⟩)) ∧ (Y.cell? ⟨lb, lo, none⟩ = some (.int .i64 hq.kd) ∧ Y.cell? ⟨lb, lo + 1, none⟩ = some (.int .i64 hq.n) ∧ Y.cell? ⟨lb, lo + 2, none⟩ = some (.string hq.tx))) (by kernel_rfl) ⟨AwS.cell hs (W12.heap.size) x (by simp), AwS.cell hs (W.heap.size) x (by simp), AwS.cell hs (W14.heap.size) x (by simp), AwS.cell hs (W15.heap.size) hq (by simp), AwS.cell hs (W4.heap.size) wA (by simp), AwS.cell hs (W4.heap.size + 1) wB (by simp), HL.out _ hs.out.b⟩ (fun hS => ?_)
      refine tH 0 ?_
      simp only [List.set]
      refine tH 1 ?_
      simp only [List.set]
      refine tH 2 (v := .bool false) ?_
      simp only [List.set]
      refine tH 3 ?_
      simp only [List.set]
      refine tH 4 ?_
      simp only [List.set]
      refine tH 5 ?_
      simp only [List.set]
      refine tH 6 ?_
      simp only [List.set]
      refine tH 7 ?_
      simp only [List.set]
      refine tH 8 ?_
      simp only [List.set]
      refine tH 9 ?_
      simp only [List.set]
      refine tH 10 ?_
      simp only [List.set]
      refine tH 11 ?_
      simp only [List.set]
      refine tH 12 ?_
      simp only [List.set]
      refine tH 13 (v := .bool false) ?_
      simp only [List.set]
      refine tH 14 ?_
      simp only [List.set]
      refine tH 15 ?_
      simp only [List.set]
      refine tH 16 ?_
      simp only [List.set]
      refine tH 17 ?_
      simp only [List.set]
      refine tH 18 ?_
      simp only [List.set]
      refine tH 19 ?_
      simp only [List.set]
      refine tH 20 ?_
      simp only [List.set]
      refine tH 21 ?_
      simp only [List.set]
      refine tH 22 ?_
      simp only [List.set]
      refine tH 23 (v := .bool true) ?_
      simp only [List.set]
      refine tH 24 (v := .bool false) ?_
      simp only [List.set]
      refine tH 25 ?_
      simp only [List.set]
      refine tH 26 ?_
      simp only [List.set]
      refine tH 27 ?_
      simp only [List.set]
      refine tH 28 ?_
      simp only [List.set]
      refine tH 29 ?_
      simp only [List.set]
      refine tH 30 ?_
      simp only [List.set]
      refine tH 31 ?_
      simp only [List.set]
      refine tH 32 ?_
      simp only [List.set]
      refine tH 33 (v := .bool false) ?_
      simp only [List.set]
      refine tH 34 ?_
      simp only [List.set]
      refine tH 35 ?_
      simp only [List.set]
      refine tH 36 ?_
      simp only [List.set]
      refine tH 37 ?_
      simp only [List.set]
      refine tH 38 ?_
      simp only [List.set]
      refine tH 40 ?_
      simp only [List.set]
      refine tH 41 ?_
      simp only [List.set]
      refine tH 42 (v := .int .i64 ((l.length : Int) + 1)) ?_
      simp only [List.set]
      refine wpAnyH_ready (rs := [39]) (by kernel_rfl) (by simp) ?_
      refine AllReadyH.cons rfl (fun K hK => ?_) AllReadyH.nil
      go_simp
      go_at_call 25
      refine (CLa.out hs).mono ?_
      rintro e Y1 ⟨rfl, b⟩
      have hs1 := AwS.bel HP hs b
      refine hK.out _ _ ⟨AwS.cell hs1 (W12.heap.size) x (by simp), AwS.cell hs1 (W.heap.size) x (by simp), AwS.cell hs1 (W14.heap.size) x (by simp), AwS.cell hs1 (W15.heap.size) hq (by simp), AwS.cell hs1 (W4.heap.size) wA (by simp), AwS.cell hs1 (W4.heap.size + 1) wB (by simp), HL.out _ hs1.out.b⟩ (fun hS => ?_)
      clear hK K b
      refine tH 43 (v := .bool false) ?_
      simp only [List.set]
      refine tH 44 ?_
      simp only [List.set]
      refine tH 45 ?_
      simp only [List.set]
      refine tH 46 ?_
      simp only [List.set]
      refine tH 47 ?_
      simp only [List.set]
      refine tH 49 ?_
      simp only [List.set]
      refine tH 50 ?_
      simp only [List.set]
      refine wpAnyH_ready (rs := [48]) (by kernel_rfl) (by simp) ?_
      refine AllReadyH.cons rfl (fun K hK => ?_) AllReadyH.nil
      go_simp
      go_at_call 25
      refine (CLb.out hs1).mono ?_
      rintro e Y2 ⟨rfl, b⟩
      have hs2 := AwS.bel HP hs1 b
      refine hK.out _ _ ⟨AwS.cell hs2 (W12.heap.size) x (by simp), AwS.cell hs2 (W.heap.size) x (by simp), AwS.cell hs2 (W14.heap.size) x (by simp), AwS.cell hs2 (W15.heap.size) hq (by simp), AwS.cell hs2 (W4.heap.size) wA (by simp), AwS.cell hs2 (W4.heap.size + 1) wB (by simp), HL.out _ hs2.out.b⟩ (fun hS => ?_)
      clear hK K b
      refine tH 51 (v := .bool false) ?_
      simp only [List.set]
      refine tH 52 ?_
      simp only [List.set]
      refine wpAnyH_done (by kernel_rfl) ?_ _
      go_wp2
      go_meet
      exact ⟨rfl, hs2⟩
  case rest =>
    obtain ⟨rfl, hs⟩ := hcut
    clear CLa CLb HEx HEn HHQ HWS hwr
    go_wp2
    go_loopw [20] (fun v20 wo => ∃ k : Nat, v20 = .int .i64 (k : Nat) ∧ k ≤ l.length ∧ Hid (AwS At W hb [(W15.heap.size, hq), (W14.heap.size, x), (W13.heap.size, zV), (W12.heap.size, x), (W6.heap.size + 1, wQ), (W6.heap.size, wP), (W4.heap.size + 1, wB), (W4.heap.size, wA), (W.heap.size, x)] (hpC l s x) T11 wo)) (fun v20 _ => l.length - (intOf v20).toNat)
    case atStart => exact ⟨0, rfl, by omega, hs⟩
    case round =>
      obtain ⟨k, rfl, hk, hs⟩ := hrel
      obtain ⟨fa0, fa1, fa2⟩ := AwS.cell hs (W4.heap.size) wA (by simp)
      simp only [wA] at fa0 fa1 fa2
      by_cases hkl : k < l.length
      · have hd : (k : Int) < (l.length : Int) := by omega
        have C : Calls Tryd.prog 23 #[.pointer (some ⟨hb, 0, none⟩), .agg #[.int .i64 5, .int .i64 0, .string ⟨#[]⟩], .int .i64 (k : Nat)] wr fun e W' => e = .returned (.tuple #[.agg #[.int .i64 l[k].kd, .int .i64 l[k].n, .string l[k].tx], .bool true]) ∧ Below wr.heap.size wr W' := by
          have h := HP.out.at_ wA (k : Nat) hs.out.a (sm_C hl) (ok_w _ _ (by decide)) (by omega) (by omega)
          rw [a_at l s x k (by omega), List.getElem_append_left hkl] at h
          exact h
        go_wp2_with fail
        go_at_call 23
        refine C.mono ?_
        rintro e Y1 ⟨rfl, b⟩
        have hs := AwS.bel HP (AwS.bel HP hs b) (belA Y1 (.cells #[.int .i64 l[k].kd, .int .i64 l[k].n, .string l[k].tx] 23))
        have HM : Hid ((Y1.alloc (.cells #[.int .i64 l[k].kd, .int .i64 l[k].n, .string l[k].tx] 23)).heap[Y1.heap.size]? = some (.cells #[.int .i64 l[k].kd, .int .i64 l[k].n, .string l[k].tx] 23 (0, 0))) := hnw _ rfl
        clear fa0 fa1 fa2
        clear C b
        go_upto_region 18 with fail
        generalize (Y1.alloc (.cells #[.int .i64 l[k].kd, .int .i64 l[k].n, .string l[k].tx] 23)) = X16 at *
        obtain ⟨f0, f1, f2⟩ := box3 (x := l[k]) HM.out
        obtain ⟨a1, c1, e1, k1⟩ := HV.out X16 hs.out.b
        obtain ⟨lb, lo, e2, hd2, hlt, hc⟩ := k1 (by omega)
        injection e1 with e1 _ _
        obtain ⟨g0, g1, g2⟩ := hc k hkl
        obtain rfl : a0 = some ⟨lb, lo, none⟩ := e1.trans e2
        clear k1 hc e1 e2 HM hlt hd2
        generalize l[k] = y at *
        have q0 : (World.drew X16).cell? ⟨Y1.heap.size, 0, none⟩ = some (.int .i64 y.kd) := f0
        have q1 : (World.drew X16).cell? ⟨Y1.heap.size, 1, none⟩ = some (.int .i64 y.n) := f1
        have q2 : (World.drew X16).cell? ⟨Y1.heap.size, 2, none⟩ = some (.string y.tx) := f2
        go_region
        go_wp2
        go_roundw
        case rel => exact ⟨k + 1, by simp, by omega, AwS.bel HP hs ((Below.refl _ X16).drew)⟩
        case measure => simp [intOf]; omega
      · obtain rfl : k = l.length := by omega
        have hd : ¬ ((l.length : Nat) : Int) < ((l.length : Nat) : Int) := by omega
        go_wp2_with fail
        clear fa0 fa1 fa2
        have C : Calls Tryd.prog 24 #[.pointer (some ⟨hb, 0, none⟩), .agg #[.int .i64 5, .int .i64 0, .string ⟨#[]⟩], .string s] wr fun e W' => e = .returned (.tuple #[.agg #[.int .i64 0, .int .i64 0, .string ⟨#[]⟩], .bool false]) ∧ Below wr.heap.size wr W' := by
          have h := HP.out.get wA s hs.out.a (sm_C hl) (ok_w _ _ (by decide)) hss
          rw [a_getA] at h
          exact h
        go_at_call 24
        refine C.mono ?_
        rintro e Y1 ⟨rfl, b⟩
        have hs := AwS.bel HP (AwS.bel HP hs b) (belA Y1 (.cells #[.int .i64 0, .int .i64 0, .string ⟨#[]⟩] 23))
        clear C b
        go_upto_region 21 with fail
        generalize (Y1.alloc (.cells #[.int .i64 0, .int .i64 0, .string ⟨#[]⟩] 23)) = X17 at *
        obtain ⟨fp0, fp1, fp2⟩ := AwS.cell hs (W6.heap.size) wP (by simp)
        obtain ⟨fx0, fx1, fx2⟩ := AwS.cell hs (W.heap.size) x (by simp)
        simp only [wP] at fp0 fp1 fp2
        go_wp2_with fail
        clear fp0 fp1 fp2 fx0 fx1 fx2
        have C : Calls Tryd.prog 21 #[.pointer (some ⟨hb, 0, none⟩), .agg #[.int .i64 6, .int .i64 2, .string ⟨#[]⟩], .agg #[.int .i64 x.kd, .int .i64 x.n, .string x.tx]] X17 (Chg At hb T11 X17 (.bool false) (hpC l s x)) := by
          have h := HP.out.psh wP x hs.out.a (sm_C hl) (ok_w _ _ (by decide)) HX.out
          rw [(a_pshP l s x).1, (a_pshP l s x).2] at h
          exact h
        go_at_call 21
        refine C.mono ?_
        rintro e Z1 ⟨rfl, U1, hA, k, sub⟩
        have hs := AwS.chg HP hs hA k sub
        clear C hA k sub
        obtain ⟨fa0, fa1, fa2⟩ := AwS.cell hs (W4.heap.size) wA (by simp)
        obtain ⟨fx0, fx1, fx2⟩ := AwS.cell hs (W.heap.size) x (by simp)
        simp only [wA] at fa0 fa1 fa2
        go_wp2_with fail
        clear fa0 fa1 fa2 fx0 fx1 fx2
        have C : Calls Tryd.prog 22 #[.pointer (some ⟨hb, 0, none⟩), .agg #[.int .i64 5, .int .i64 0, .string ⟨#[]⟩], .string s, .agg #[.int .i64 x.kd, .int .i64 x.n, .string x.tx]] Z1 (Chg At hb U1 Z1 (.bool false) (hpC l s x)) := by
          have h := HP.out.set wA s x hs.out.a (sm_C hl) (ok_w _ _ (by decide)) HX.out hss
          rw [(a_setA l s x).1, (a_setA l s x).2] at h
          exact h
        go_at_call 22
        refine C.mono ?_
        rintro e Z2 ⟨rfl, U2, hA, k, sub⟩
        have hs := AwS.chg HP hs hA k sub
        clear C hA k sub
        obtain ⟨fp0, fp1, fp2⟩ := AwS.cell hs (W6.heap.size) wP (by simp)
        simp only [wP] at fp0 fp1 fp2
        go_wp2_with fail
        clear fp0 fp1 fp2
        have C : Calls Tryd.prog 25 #[.pointer (some ⟨hb, 0, none⟩), .agg #[.int .i64 6, .int .i64 2, .string ⟨#[]⟩]] Z2 fun e W' => e = .returned (.int .i64 0) ∧ Below Z2.heap.size Z2 W' := by
          have h := HP.out.len wP hs.out.a (sm_C hl) (ok_w _ _ (by decide))
          rw [a_lenP] at h
          exact h
        go_at_call 25
        refine C.mono ?_
        rintro e Z3 ⟨rfl, b⟩
        have hs := AwS.bel HP hs b
        clear C b
        go_wp2
        go_ret
        exact ⟨rfl, hs.out.b⟩
end Go.Proofs.YtlijplbaefaeaaaDoor
