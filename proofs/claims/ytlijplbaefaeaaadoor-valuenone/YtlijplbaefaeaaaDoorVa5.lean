/- Own text. Values: awake, over what package value must answer. -/
import Derived.Test.YtlijplbaefaeaaaDoorVa4
namespace Go.Proofs.YtlijplbaefaeaaaDoor
open Go.RowKit
set_option linter.unusedVariables false
set_option linter.unusedSimpArgs false

theorem e_typ : typT ⟨1, 0, ⟨#[]⟩⟩ = ⟨#[111, 98, 106, 101, 99, 116]⟩ := by simp [typT]
theorem e_tru : truV (nuV 1) = true := by simp [truV, nuV]
theorem e_txt : txtV (nuV (-5)) = ⟨#[45, 53]⟩ := by simp [txtV, nuV, prtL, digL, digF]
theorem ns_new {W : World} (s1 s2 s3 : ByteArray) : NsA (W.alloc (.cells #[.string s1, .string s2, .string s3] 9)) (fun b => b = W.heap.size) (.slice (some ⟨W.heap.size, 0, none⟩) 3 3) [s1, s2, s3] := by
  refine ⟨_, _, rfl, fun _ => ⟨W.heap.size, 0, rfl, rfl, by simp, fun i hi => ?_⟩⟩
  have hc : ∀ j, (W.alloc (.cells #[.string s1, .string s2, .string s3] 9)).cell? ⟨W.heap.size, j, none⟩ = (#[Value.string s1, .string s2, .string s3] : Array Value)[j]? := fun j => cell_of_row _ _ _ _ _ _ (hnw _ rfl)
  rw [Nat.zero_add, hc]
  have hi : i < 3 := hi
  match i, hi with
  | 0, _ => rfl
  | 1, _ => rfl
  | 2, _ => rfl
theorem NsA.bel {W W' : World} {D : Nat → Prop} {v : Value} {l : List ByteArray} (h : NsA W D v l) (b : Below W.heap.size W W') : NsA W' D v l := by
  obtain ⟨a, c, e, k⟩ := h
  refine ⟨a, c, e, fun h0 => ?_⟩
  obtain ⟨bl, o, e1, hd, hlt, hc⟩ := k h0
  exact ⟨bl, o, e1, hd, Nat.lt_of_lt_of_le hlt b.size, fun i hi => (World.cell?_of_block (a := ⟨bl, o + i, none⟩) (b.block bl hlt)).trans (hc i hi)⟩
theorem NsA.mono {W : World} {D E : Nat → Prop} {v : Value} {l : List ByteArray} (h : NsA W D v l) (hd : ∀ b, D b → E b) : NsA W E v l := by
  obtain ⟨a, c, e, k⟩ := h
  exact ⟨a, c, e, fun h0 => let ⟨bl, o, e1, hd', r⟩ := k h0; ⟨bl, o, e1, hd _ hd', r⟩⟩
theorem VsA.mono {W : World} {D E : Nat → Prop} {v : Value} {l : List Vl} (h : VsA W D v l) (hd : ∀ b, D b → E b) : VsA W E v l := by
  obtain ⟨a, c, e, k⟩ := h
  exact ⟨a, c, e, fun h0 => let ⟨bl, o, e1, hd', r⟩ := k h0; ⟨bl, o, e1, hd _ hd', r⟩⟩
/-- a heap and three values in variables. -/
structure AwS (At : World → Nat → Hp → (Nat → Prop) → Prop) (W : World) (hb : Nat) (qs : List (Nat × Vl)) (H : Hp) (S : Nat → Prop) (Y : World) : Prop where
  a : At Y hb H S
  m : ∀ p ∈ qs, Y.heap[p.1]? = some (.cells #[.int .i64 p.2.kd, .int .i64 p.2.n, .string p.2.tx] 23 (0, 0)) ∧ ¬ S p.1
  b : Below W.heap.size W Y
  s : ∀ b, S b → W.heap.size ≤ b
theorem AwS.bel {Ev : World → Prop} {At : World → Nat → Hp → (Nat → Prop) → Prop} (PV : Hid (PrgV Ev At)) {W : World} {hb : Nat} {qs : List (Nat × Vl)} {H : Hp} {S : Nat → Prop} {Y Y' : World} (h : Hid (AwS At W hb qs H S Y)) (k : Below Y.heap.size Y Y') : Hid (AwS At W hb qs H S Y') :=
  ⟨PV.out.keep h.out.a k.size (fun b hb' => k.block b (PV.out.lt h.out.a b hb')), fun p hp => ⟨(k.block _ (glt (h.out.m p hp).1)).trans (h.out.m p hp).1, (h.out.m p hp).2⟩, h.out.b.trans (k.mono h.out.b.size), h.out.s⟩
theorem AwS.chg {Ev : World → Prop} {At : World → Nat → Hp → (Nat → Prop) → Prop} (PV : Hid (PrgV Ev At)) {W : World} {hb : Nat} {qs : List (Nat × Vl)} {H H' : Hp} {S S' : Nat → Prop} {Y Y' : World} (h : Hid (AwS At W hb qs H S Y)) (a : At Y' hb H' S') (k : Kv S Y Y') (sub : ∀ b, S' b → S b ∨ Y.heap.size ≤ b) : Hid (AwS At W hb qs H' S' Y') :=
  ⟨a, fun p hp => box_kept (h.out.m p hp).1 (h.out.m p hp).2 k sub, h.out.b.trans (k.bel h.out.b.size h.out.s), fun b hb' => (sub b hb').elim (h.out.s b) (fun q => Nat.le_trans h.out.b.size q)⟩
/-- a value more, in a variable that was made just now. -/
theorem AwS.box {Ev : World → Prop} {At : World → Nat → Hp → (Nat → Prop) → Prop} (PV : Hid (PrgV Ev At)) {W : World} {hb : Nat} {qs : List (Nat × Vl)} {H : Hp} {S : Nat → Prop} {Y : World} (h : Hid (AwS At W hb qs H S Y)) (x : Vl) : Hid (AwS At W hb ((Y.heap.size, x) :: qs) H S (Y.alloc (.cells #[.int .i64 x.kd, .int .i64 x.n, .string x.tx] 23))) := by
  have h2 := AwS.bel PV h (belA Y (.cells #[.int .i64 x.kd, .int .i64 x.n, .string x.tx] 23))
  refine ⟨h2.out.a, fun p hp => ?_, h2.out.b, h2.out.s⟩
  rcases List.mem_cons.1 hp with rfl | hp
  · exact ⟨hnw _ rfl, fun q => by have := PV.out.lt h.out.a _ q; omega⟩
  · exact h2.out.m p hp
theorem AwS.cell {At : World → Nat → Hp → (Nat → Prop) → Prop} {W : World} {hb : Nat} {qs : List (Nat × Vl)} {H : Hp} {S : Nat → Prop} {Y : World} (h : Hid (AwS At W hb qs H S Y)) (q : Nat) (x : Vl) (hq : (q, x) ∈ qs) : Y.cell? ⟨q, 0, none⟩ = some (.int .i64 x.kd) ∧ Y.cell? ⟨q, 1, none⟩ = some (.int .i64 x.n) ∧ Y.cell? ⟨q, 2, none⟩ = some (.string x.tx) := box3 (h.out.m _ hq).1
set_option maxRecDepth 100000 in
set_option maxHeartbeats 16000000 in
theorem awake_any {Ev : World → Prop} {At : World → Nat → Hp → (Nat → Prop) → Prop} (PV : PrgV Ev At) (W : World) (he : Ev W) : Calls Tryd.prog 16 #[] W fun e W' => e = .returned (.bool true) ∧ Below W.heap.size W W' := by
  have HE : Hid (Ev W) := he
  have HP : Hid (PrgV Ev At) := PV
  have CN := PV.new W
  clear he PV
  go_enter Tryd.func16, Tryd.ntmps16
  go_wp2_with fail
  go_at_call 7
  refine CN.mono ?_
  rintro e W1 ⟨hb, S1, rfl, hA1, b1, hS1⟩
  clear CN
  have hs : Hid (AwS At W hb [] [] S1 W1) := ⟨hA1, fun p hp => (by cases hp), b1, hS1⟩
  clear hA1 b1 hS1
  go_wp2_with fail
  go_at_call 31
  refine (number_any _ _).mono ?_
  rintro e W2 ⟨rfl, b⟩
  have hs := AwS.bel HP hs b
  clear b
  go_wp2_with fail
  go_at_call 31
  refine (number_any _ _).mono ?_
  rintro e W3 ⟨rfl, b⟩
  have hs := AwS.bel HP hs b
  clear b
  go_wp2_with fail
  have h3 := AwS.bel HP hs (belA W3 (.cells #[.int .i64 3, .int .i64 1, .string ⟨#[]⟩, .int .i64 3, .int .i64 2, .string ⟨#[]⟩] 23))
  have C : Calls Tryd.prog 19 #[.pointer (some ⟨hb, 0, none⟩), .slice (some ⟨W3.heap.size, 0, none⟩) 2 2] (W3.alloc (.cells #[.int .i64 3, .int .i64 1, .string ⟨#[]⟩, .int .i64 3, .int .i64 2, .string ⟨#[]⟩] 23)) (Chg At hb S1 (W3.alloc (.cells #[.int .i64 3, .int .i64 1, .string ⟨#[]⟩, .int .i64 3, .int .i64 2, .string ⟨#[]⟩] 23)) (.agg #[.int .i64 5, .int .i64 0, .string ⟨#[]⟩]) h1A) :=
    HP.out.arr (fun b => b = W3.heap.size) _ [nuV 1, nuV 2] h3.out.a sm_0 (fun x hx => by simp at hx; rcases hx with rfl | rfl <;> exact ok_nu _ (by omega)) (by decide) (vs_new (l := [nuV 1, nuV 2]) rfl) (fun b e h => by have := HP.out.lt hs.out.a b h; omega)
  go_at_call 19
  refine C.mono ?_
  rintro e W4 ⟨rfl, S4, hA4, k4, sub4⟩
  have h4 := AwS.box HP (AwS.chg HP h3 hA4 k4 sub4) vA
  have Z4 : Hid ((W4.alloc (.cells #[.int .i64 5, .int .i64 0, .string ⟨#[]⟩] 23)).heap.size = W4.heap.size + 1) := by show _ = _; simp
  clear C hA4 k4 sub4 h3 hs
  have hs : Hid (AwS At W hb [(W4.heap.size, vA)] h1A S4 (W4.alloc (.cells #[.int .i64 5, .int .i64 0, .string ⟨#[]⟩] 23))) := h4
  clear h4
  go_wp2_with fail
  generalize W4.alloc (.cells #[.int .i64 5, .int .i64 0, .string ⟨#[]⟩] 23) = X4 at *
  have h4 : Hid (AwS At W hb [(W4.heap.size, vA)] h1A S4 X4) := hs
  have E4 : Hid (Below (X4.alloc (.cells #[.string ⟨#[97]⟩, .string ⟨#[98]⟩, .string ⟨#[97]⟩] 9)).heap.size (X4.alloc (.cells #[.string ⟨#[97]⟩, .string ⟨#[98]⟩, .string ⟨#[97]⟩] 9)) (X4.alloc (.cells #[.string ⟨#[97]⟩, .string ⟨#[98]⟩, .string ⟨#[97]⟩] 9))) := Below.refl _ _
  have NS : Hid (NsA (X4.alloc (.cells #[.string ⟨#[97]⟩, .string ⟨#[98]⟩, .string ⟨#[97]⟩] 9)) (fun b => b = X4.heap.size) (.slice (some ⟨X4.heap.size, 0, none⟩) 3 3) [sA, sB, sA]) := ns_new sA sB sA
  have hs := AwS.bel HP hs (belA X4 (.cells #[.string ⟨#[97]⟩, .string ⟨#[98]⟩, .string ⟨#[97]⟩] 9))
  go_at_call 31
  refine (number_any _ _).mono ?_
  rintro e W5 ⟨rfl, b⟩
  have hs := AwS.bel HP hs b
  have E5 : Hid (Below (X4.alloc (.cells #[.string ⟨#[97]⟩, .string ⟨#[98]⟩, .string ⟨#[97]⟩] 9)).heap.size (X4.alloc (.cells #[.string ⟨#[97]⟩, .string ⟨#[98]⟩, .string ⟨#[97]⟩] 9)) W5) := E4.out.trans (b.mono E4.out.size)
  clear b
  go_wp2_with fail
  go_at_call 31
  refine (number_any _ _).mono ?_
  rintro e W6 ⟨rfl, b⟩
  have hs := AwS.bel HP hs b
  have E6 : Hid (Below (X4.alloc (.cells #[.string ⟨#[97]⟩, .string ⟨#[98]⟩, .string ⟨#[97]⟩] 9)).heap.size (X4.alloc (.cells #[.string ⟨#[97]⟩, .string ⟨#[98]⟩, .string ⟨#[97]⟩] 9)) W6) := E5.out.trans (b.mono E5.out.size)
  clear b
  go_wp2_with fail
  go_at_call 31
  refine (number_any _ _).mono ?_
  rintro e W7 ⟨rfl, b⟩
  have hs := AwS.bel HP hs b
  have E7 : Hid (Below (X4.alloc (.cells #[.string ⟨#[97]⟩, .string ⟨#[98]⟩, .string ⟨#[97]⟩] 9)).heap.size (X4.alloc (.cells #[.string ⟨#[97]⟩, .string ⟨#[98]⟩, .string ⟨#[97]⟩] 9)) W7) := E6.out.trans (b.mono E6.out.size)
  clear b
  go_wp2_with fail
  have h7 := AwS.bel HP hs (belA W7 (.cells #[.int .i64 3, .int .i64 1, .string ⟨#[]⟩, .int .i64 3, .int .i64 2, .string ⟨#[]⟩, .int .i64 3, .int .i64 3, .string ⟨#[]⟩] 23))
  have C : Calls Tryd.prog 20 #[.pointer (some ⟨hb, 0, none⟩), .slice (some ⟨X4.heap.size, 0, none⟩) 3 3, .slice (some ⟨W7.heap.size, 0, none⟩) 3 3] (W7.alloc (.cells #[.int .i64 3, .int .i64 1, .string ⟨#[]⟩, .int .i64 3, .int .i64 2, .string ⟨#[]⟩, .int .i64 3, .int .i64 3, .string ⟨#[]⟩] 23)) (Chg At hb S4 (W7.alloc (.cells #[.int .i64 3, .int .i64 1, .string ⟨#[]⟩, .int .i64 3, .int .i64 2, .string ⟨#[]⟩, .int .i64 3, .int .i64 3, .string ⟨#[]⟩] 23)) (.agg #[.int .i64 6, .int .i64 1, .string ⟨#[]⟩]) h2A) := by
    have h := HP.out.obj (fun b => b = X4.heap.size ∨ b = W7.heap.size) (.slice (some ⟨X4.heap.size, 0, none⟩) 3 3) (.slice (some ⟨W7.heap.size, 0, none⟩) 3 3) [sA, sB, sA] [nuV 1, nuV 2, nuV 3] h7.out.a sm_1 (fun x hx => by simp at hx; rcases hx with rfl | rfl | rfl <;> exact ok_nu _ (by omega)) (fun x hx => by simp at hx; rcases hx with rfl | rfl | rfl <;> decide) (by decide) (by decide) ((NS.out.bel (E7.out.trans ((belA W7 _).mono E7.out.size))).mono (fun b h => .inl h)) ((vs_new (l := [nuV 1, nuV 2, nuV 3]) rfl).mono (fun b h => .inr h)) (fun b e h => by
      have := HP.out.lt h4.out.a b h
      have := E7.out.size
      simp at this
      omega)
    rw [e_obj] at h
    exact h
  rw [← Z4.out]
  go_at_call 20
  refine C.mono ?_
  rintro e W8 ⟨rfl, S8, hA8, k8, sub8⟩
  have h8 := AwS.box HP (AwS.chg HP h7 hA8 k8 sub8) vO
  clear C hA8 k8 sub8 h7 hs h4 E4 E5 E6 E7 NS Z4
  have hs : Hid (AwS At W hb [(W8.heap.size, vO), (W4.heap.size, vA)] h2A S8 (W8.alloc (.cells #[.int .i64 6, .int .i64 1, .string ⟨#[]⟩] 23))) := h8
  clear h8
  have C2 : Calls Tryd.prog 24 #[.pointer (some ⟨hb, 0, none⟩), .agg #[.int .i64 6, .int .i64 1, .string ⟨#[]⟩], .string ⟨#[97]⟩] (W8.alloc (.cells #[.int .i64 6, .int .i64 1, .string ⟨#[]⟩] 23)) fun e W' => e = .returned (.tuple #[.agg #[.int .i64 3, .int .i64 3, .string ⟨#[]⟩], .bool true]) ∧ Below (W8.alloc (.cells #[.int .i64 6, .int .i64 1, .string ⟨#[]⟩] 23)).heap.size (W8.alloc (.cells #[.int .i64 6, .int .i64 1, .string ⟨#[]⟩] 23)) W' := by
    have h := HP.out.get vO sA hs.out.a sm_2 ok_vO (by decide)
    rw [e_get] at h
    exact h
  go_wp2_with fail
  go_at_call 24
  refine C2.mono ?_
  rintro e W9 ⟨rfl, b⟩
  have h9 := AwS.box HP (AwS.bel HP hs b) (nuV 3)
  clear hs C2 b
  have hs : Hid (AwS At W hb [(W9.heap.size, nuV 3), (W8.heap.size, vO), (W4.heap.size, vA)] h2A S8 (W9.alloc (.cells #[.int .i64 3, .int .i64 3, .string ⟨#[]⟩] 23))) := h9
  clear h9
  go_wp2_with fail
  generalize (W9.alloc (.cells #[.int .i64 3, .int .i64 3, .string ⟨#[]⟩] 23)) = Y9 at *
  have hs := AwS.bel HP hs ((Below.refl _ Y9).drew)
  have CS : ∀ {H : Hp} {S : Nat → Prop} {Y : World}, Hid (AwS At W hb [(W9.heap.size, nuV 3), (W8.heap.size, vO), (W4.heap.size, vA)] H S Y) → (Y.cell? ⟨W9.heap.size, 0, none⟩ = some (.int .i64 3) ∧ Y.cell? ⟨W9.heap.size, 1, none⟩ = some (.int .i64 3) ∧ Y.cell? ⟨W9.heap.size, 2, none⟩ = some (.string ⟨#[]⟩)) ∧ (Y.cell? ⟨W8.heap.size, 0, none⟩ = some (.int .i64 6) ∧ Y.cell? ⟨W8.heap.size, 1, none⟩ = some (.int .i64 1) ∧ Y.cell? ⟨W8.heap.size, 2, none⟩ = some (.string ⟨#[]⟩)) ∧ (Y.cell? ⟨W4.heap.size, 0, none⟩ = some (.int .i64 5) ∧ Y.cell? ⟨W4.heap.size, 1, none⟩ = some (.int .i64 0) ∧ Y.cell? ⟨W4.heap.size, 2, none⟩ = some (.string ⟨#[]⟩)) := fun h => ⟨AwS.cell h _ (nuV 3) (by simp), AwS.cell h _ vO (by simp), AwS.cell h _ vA (by simp)⟩
  have HCS : Hid _ := @CS
  clear CS
  have CT : Hid (∀ Y, Calls Tryd.prog 10 #[.agg #[.int .i64 1, .int .i64 0, .string ⟨#[]⟩]] Y fun e W' => e = .returned (.string ⟨#[111, 98, 106, 101, 99, 116]⟩) ∧ Below Y.heap.size Y W') := fun Y => by
    have h := HP.out.typ ⟨1, 0, ⟨#[]⟩⟩ Y ⟨⟨by decide, by decide⟩, by decide⟩
    rw [e_typ] at h
    exact h
  have CU : Hid (∀ Y, Calls Tryd.prog 8 #[.agg #[.int .i64 3, .int .i64 1, .string ⟨#[]⟩]] Y fun e W' => e = .returned (.bool true) ∧ Below Y.heap.size Y W') := fun Y => by
    have h := HP.out.tru (nuV 1) Y (ok_nu _ (by omega))
    rw [e_tru] at h
    exact h
  have CX : Hid (∀ Y, Ev Y → Calls Tryd.prog 12 #[.pointer (some ⟨hb, 0, none⟩), .agg #[.int .i64 3, .int .i64 (-5), .string ⟨#[]⟩]] Y fun e W' => e = .returned (.string ⟨#[45, 53]⟩) ∧ Below Y.heap.size Y W') := fun Y hE => by
    have h := HP.out.txt (some ⟨hb, 0, none⟩) (nuV (-5)) Y (ok_nu _ (by omega)) hE
    rw [e_txt] at h
    exact h
  have tok1 : True := trivial
  go_region_held3 (fun Y => (Y.cell? ⟨W9.heap.size, 0, none⟩ = some (.int .i64 3) ∧ Y.cell? ⟨W9.heap.size, 1, none⟩ = some (.int .i64 3) ∧ Y.cell? ⟨W9.heap.size, 2, none⟩ = some (.string ⟨#[]⟩)) ∧ (Y.cell? ⟨W8.heap.size, 0, none⟩ = some (.int .i64 6) ∧ Y.cell? ⟨W8.heap.size, 1, none⟩ = some (.int .i64 1) ∧ Y.cell? ⟨W8.heap.size, 2, none⟩ = some (.string ⟨#[]⟩)) ∧ (Y.cell? ⟨W4.heap.size, 0, none⟩ = some (.int .i64 5) ∧ Y.cell? ⟨W4.heap.size, 1, none⟩ = some (.int .i64 0) ∧ Y.cell? ⟨W4.heap.size, 2, none⟩ = some (.string ⟨#[]⟩)))
    (first | exact HCS.out hs)
    (first
      | (go_at_call 31; refine (number_any _ _).mono ?_; rintro e Yn ⟨rfl, b⟩; have hs := AwS.bel HP hs b)
      | (go_at_call 26; have _t := tok1; have C : Calls Tryd.prog 26 #[.pointer (some ⟨hb, 0, none⟩), .agg #[.int .i64 5, .int .i64 0, .string ⟨#[]⟩], .int .i64 2, .agg #[.int .i64 3, .int .i64 5, .string ⟨#[]⟩]] _ _ := HP.out.put vA 2 (nuV 5) hs.out.a sm_2 ok_vA (ok_nu _ (by omega)) (by decide) (by decide); rw [e_put.1, e_put.2] at C; refine C.mono ?_; rintro e Yn ⟨rfl, Sp, hAp, kp, subp⟩; have hs := AwS.chg HP hs hAp kp subp; clear tok1 C)
      | (go_at_call 25; have C : Calls Tryd.prog 25 #[.pointer (some ⟨hb, 0, none⟩), .agg #[.int .i64 5, .int .i64 0, .string ⟨#[]⟩]] _ _ := HP.out.len vA hs.out.a sm_3 ok_vA; rw [e_len] at C; refine C.mono ?_; rintro e Yn ⟨rfl, b⟩; have hs := AwS.bel HP hs b)
      | (go_at_call 26; have C : Calls Tryd.prog 26 #[.pointer (some ⟨hb, 0, none⟩), .agg #[.int .i64 5, .int .i64 0, .string ⟨#[]⟩], .int .i64 9, .agg #[.int .i64 3, .int .i64 5, .string ⟨#[]⟩]] _ _ := HP.out.put vA 9 (nuV 5) hs.out.a sm_3 ok_vA (ok_nu _ (by omega)) (by decide) (by decide); rw [e_put9.1, e_put9.2] at C; refine C.mono ?_; rintro e Yn ⟨rfl, Sp, hAp, kp, subp⟩; have hs := AwS.chg HP hs hAp kp subp)
      | (go_at_call 10; refine (CT.out _).mono ?_; rintro e Yn ⟨rfl, b⟩; have hs := AwS.bel HP hs b)
      | (go_at_call 8; refine (CU.out _).mono ?_; rintro e Yn ⟨rfl, b⟩; have hs := AwS.bel HP hs b)
      | (go_at_call 12; refine (CX.out _ (HP.out.ev HE.out hs.out.b)).mono ?_; rintro e Yn ⟨rfl, b⟩; have hs := AwS.bel HP hs b))
  go_wp2
  go_ret
  exact ⟨rfl, hs.out.b⟩
end Go.Proofs.YtlijplbaefaeaaaDoor
