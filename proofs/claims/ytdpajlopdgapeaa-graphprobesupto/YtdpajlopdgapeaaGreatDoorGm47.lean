/- Own text. Package graph: what Load does with the three files that every statement of stage 10 begins with. -/
import Derived.Test.YtdpajlopdgapeaaGreatDoorGm29
import Derived.Test.YtdpajlopdgapeaaGreatDoorGm44
import Derived.Test.YtdpajlopdgapeaaGreatDoorGm46
namespace Go.Proofs.YtdpajlopdgapeaaGreatDoor
open Go.RowKit Go.MapKept
set_option linter.unusedVariables false
set_option linter.unusedSimpArgs false

def pA : ByteArray := ⟨#[47, 97, 46, 116, 115]⟩
def pB : ByteArray := ⟨#[47, 98, 46, 116, 115]⟩
def pC : ByteArray := ⟨#[47, 99, 46, 116, 115]⟩
def qA : ByteArray := ⟨#[47, 97]⟩
def qB : ByteArray := ⟨#[47, 98]⟩
def qC : ByteArray := ⟨#[47, 99]⟩
def qD : ByteArray := ⟨#[47, 100]⟩
def eA : ByteArray := ⟨#[47, 120, 47, 46, 46, 47, 97]⟩
def tb3 : Fls := [(pA, srcA), (pB, srcB), (pC, srcC)]
def MR3 (s : ByteArray) : Nd := if s.data = srcA.data then modA else if s.data = srcB.data then modB else modC
theorem eqB_d (a b : ByteArray) : eqB a b = (a.data.toList == b.data.toList) := by unfold eqB; rw [Lib.toList_data, Lib.toList_data]
theorem lessB_d (a b : ByteArray) : lessB a b = Op.bytesLess a.data.toList b.data.toList := by unfold lessB; rw [Lib.toList_data, Lib.toList_data]
theorem wrs3 : wrs tb3 = tb3 := by
  have l1 : lessB pA pB = true := by rw [lessB_d]; kernel_rfl
  have l2 : lessB pA pC = true := by rw [lessB_d]; kernel_rfl
  have l3 : lessB pB pC = true := by rw [lessB_d]; kernel_rfl
  have z1 : srcA.size ≤ 65536 := by decide
  have z2 : srcB.size ≤ 65536 := by decide
  have z3 : srcC.size ≤ 65536 := by decide
  simp [wrs, tb3, Vf.wrL, ins, l1, l2, l3, z1, z2, z3]
theorem hasF : (fun q => hasP q tb3) = fun q => tb3.any fun x => x.1.data.toList == q.data.toList := by
  funext q
  unfold hasP
  congr 1
  funext x
  exact eqB_d _ _
theorem has3 {f : ByteArray} (h : hasP f tb3 = true) : f = pA ∨ f = pB ∨ f = pC := by
  unfold hasP tb3 at h
  simp only [List.any_cons, List.any_nil, Bool.or_false, Bool.or_eq_true] at h
  have k : ∀ p : ByteArray, eqB p f = true → f = p := fun p hp => by
    unfold eqB at hp
    exact (toList_inj (by simpa using hp)).symm
  rcases h with h | h | h
  · exact .inl (k _ h)
  · exact .inr (.inl (k _ h))
  · exact .inr (.inr (k _ h))
theorem get3 : getP pA tb3 = srcA ∧ getP pB tb3 = srcB ∧ getP pC tb3 = srcC := by
  have e : ∀ p, getP p tb3 = match tb3.find? (fun x => x.1.data.toList == p.data.toList) with | some x => x.2 | none => ByteArray.empty := fun p => by
    unfold getP
    simp only [eqB_d]
    cases List.find? (fun x => x.1.data.toList == p.data.toList) tb3 <;> rfl
  rw [e, e, e]
  exact ⟨by kernel_rfl, by kernel_rfl, by kernel_rfl⟩
theorem mr3 : MR3 srcA = modA ∧ MR3 srcB = modB ∧ MR3 srcC = modC := by
  have h1 : srcB.data ≠ srcA.data := by decide
  have h2 : srcC.data ≠ srcA.data := by decide
  have h3 : srcC.data ≠ srcB.data := by decide
  unfold MR3
  exact ⟨by rw [if_pos rfl], by rw [if_neg h1, if_pos rfl], by rw [if_neg h2, if_neg h3]⟩
theorem mok3 : MOk tb3 MR3 := by
  obtain ⟨g1, g2, g3⟩ := get3
  obtain ⟨m1, m2, m3⟩ := mr3
  refine ⟨fun W file he hh => ?_, fun file hh => ?_, fun file hh => ?_⟩
  · rcases has3 hh with rfl | rfl | rfl
    · rw [g1, m1]; exact module_A W he
    · rw [g2, m2]; exact module_B W he
    · rw [g3, m3]; exact module_C W he
  · rcases has3 hh with rfl | rfl | rfl
    · rw [g1, m1]; decide
    · rw [g2, m2]; decide
    · rw [g3, m3]; decide
  · rcases has3 hh with rfl | rfl | rfl
    · rw [g1, m1]; decide
    · rw [g2, m2]; decide
    · rw [g3, m3]; decide
theorem rq3A : reqsL modA = [⟨nB, false, 0, 0⟩, ⟨nC, true, 1, 0⟩] := by rfl
theorem rq3B : reqsL modB = [⟨nC, false, 0, 0⟩] := by rfl
theorem rq3C : reqsL modC = [] := by rfl
theorem prb3 : prbF (fun q => hasP q tb3) qA = some pA ∧ prbF (fun q => hasP q tb3) qB = some pB ∧ prbF (fun q => hasP q tb3) qC = some pC ∧ prbF (fun q => hasP q tb3) qD = none := by
  rw [hasF]
  exact ⟨by kernel_rfl, by kernel_rfl, by kernel_rfl, by kernel_rfl⟩
theorem nrm3 : Pa.nrmB eA = qA ∧ Pa.nrmE eA = 0 ∧ Pa.nrmB qD = qD ∧ Pa.nrmE qD = 0 := ⟨by kernel_rfl, by kernel_rfl, by kernel_rfl, by kernel_rfl⟩
theorem jn3 : Pa.jnB pA nB = qB ∧ Pa.jnE pA nB = 0 ∧ Pa.jnB pB nC = qC ∧ Pa.jnE pB nC = 0 ∧ Pa.jnB pA nC = qC ∧ Pa.jnE pA nC = 0 := ⟨by kernel_rfl, by kernel_rfl, by kernel_rfl, by kernel_rfl, by kernel_rfl, by kernel_rfl⟩
section
variable {L : Fls} {MR : ByteArray → Nd}
theorem fol_new {r : Qn} {p file : ByteArray} {S S' : Sx} {n : Int} {f : Option Ft} (h : Fol L MR r p 0 S n S' f) (hp : prbF (fun q => hasP q L) p = some file) (hn : S.num file = none) (hl : S.ms.length ≠ 64) : Vis L MR file S S' f := by
  cases h with
  | err he => exact absurd rfl he
  | miss h => rw [hp] at h; cases h
  | old h1 h2 => rw [hp] at h1; cases h1; rw [hn] at h2; cases h2
  | many h1 h2 h3 => exact absurd h3 hl
  | new h1 _ _ hv => rw [hp] at h1; cases h1; exact hv
theorem fol_old {r : Qn} {p file : ByteArray} {S S' : Sx} {n m : Int} {f : Option Ft} (h : Fol L MR r p 0 S n S' f) (hp : prbF (fun q => hasP q L) p = some file) (hn : S.num file = some m) : n = m ∧ S' = S ∧ f = none := by
  cases h with
  | err he => exact absurd rfl he
  | miss h => rw [hp] at h; cases h
  | old h1 h2 => rw [hp] at h1; cases h1; rw [hn] at h2; cases h2; exact ⟨rfl, rfl, rfl⟩
  | many h1 h2 h3 => rw [hp] at h1; cases h1; rw [hn] at h2; cases h2
  | new h1 h2 _ hv => rw [hp] at h1; cases h1; rw [hn] at h2; cases h2
theorem fol_miss {r : Qn} {p : ByteArray} {S S' : Sx} {n : Int} {f : Option Ft} (h : Fol L MR r p 0 S n S' f) (hp : prbF (fun q => hasP q L) p = none) : f = some (r, 100) := by
  cases h with
  | err he => exact absurd rfl he
  | miss h => rfl
  | old h1 h2 => rw [hp] at h1; cases h1
  | many h1 h2 h3 => rw [hp] at h1; cases h1
  | new h1 h2 _ hv => rw [hp] at h1; cases h1
theorem lop_done {file : ByteArray} {a i : Nat} {S S' : Sx} {f : Option Ft} {m : Md} (h : Lop L MR file a i S S' f) (hm : S.ms[a]? = some m) (hi : m.rs.length ≤ i) : S' = S ∧ f = none := by
  cases h with
  | done h1 h2 => exact ⟨rfl, rfl⟩
  | bad h1 h2 h3 => rw [hm] at h1; cases h1; rw [List.getElem?_eq_none hi] at h2; cases h2
  | go h1 h2 h3 h4 => rw [hm] at h1; cases h1; rw [List.getElem?_eq_none hi] at h2; cases h2
/-- a round of the loop whose request is followed well. -/
theorem lop_go {file : ByteArray} {a i : Nat} {S S' : Sx} {f : Option Ft} {m : Md} {q : Rq} (h : Lop L MR file a i S S' f) (hm : S.ms[a]? = some m) (hq : m.rs[i]? = some q) (ht : S.tgt (file, q.t) = none) (hE : Pa.jnE file q.t = 0)
    (HF : ∀ n S1 f1, Fol L MR (file, q.t) (Pa.jnB file q.t) 0 S n S1 f1 → f1 = none) : ∃ n S1, Fol L MR (file, q.t) (Pa.jnB file q.t) 0 S n S1 none ∧ Lop L MR file a (i + 1) (setT { S1 with tgt := upd S1.tgt (file, q.t) n } a i n) S' f := by
  have hlt : i < m.rs.length := (List.getElem?_eq_some_iff.1 hq).1
  cases h with
  | done h1 h2 => rw [hm] at h1; cases h1; omega
  | bad h1 h2 h3 =>
    rw [hm] at h1; cases h1; rw [hq] at h2; cases h2
    cases h3 with
    | bad _ hf => rw [hE] at hf; have := HF _ _ _ hf; cases this
  | go h1 h2 h3 h4 =>
    rw [hm] at h1; cases h1; rw [hq] at h2; cases h2
    cases h3 with
    | old h => rw [ht] at h; cases h
    | go _ hf => rw [hE] at hf; exact ⟨_, _, hf, h4⟩
theorem vis_inv {file : ByteArray} {S S' : Sx} {f : Option Ft} (h : Vis L MR file S S' f) : ∃ m v, m.p = file ∧ m.rs = reqsL (MR (getP file L)) ∧ Lop L MR file S.ms.length 0 ⟨S.ms ++ [m], v, upd S.num file (S.ms.length : Nat), S.tgt⟩ S' f := by
  cases h with
  | mk m v hp hr h => exact ⟨m, v, hp, hr, h⟩
end
theorem upd_same {κ υ : Type} [DecidableEq κ] (f : κ → Option υ) (k : κ) (v : υ) : upd f k v k = some v := by unfold upd; exact if_pos rfl
theorem neAB : pA ≠ pB ∧ pA ≠ pC ∧ pB ≠ pC ∧ nB ≠ nC := by
  refine ⟨?_, ?_, ?_, ?_⟩ <;> intro e <;> (have := congrArg (fun x : ByteArray => x.data) e; revert this; decide)
theorem vis_C {S S' : Sx} {f : Option Ft} (h : Vis tb3 MR3 pC S S' f) : f = none ∧ ∃ m v, S' = ⟨S.ms ++ [m], v, upd S.num pC (S.ms.length : Nat), S.tgt⟩ := by
  obtain ⟨m, v, hp, hr, hl⟩ := vis_inv h
  rw [get3.2.2, mr3.2.2, rq3C] at hr
  obtain ⟨e1, e2⟩ := lop_done hl (m := m) (by simp) (by rw [hr]; simp)
  exact ⟨e2, m, v, e1⟩
theorem vis_B {m0 : Md} {v : Value} {num : ByteArray → Option Int} {tgt : Qn → Option Int} {S' : Sx} {f : Option Ft} (h : Vis tb3 MR3 pB ⟨[m0], v, num, tgt⟩ S' f) (hn : num pC = none) (ht : tgt (pB, nC) = none) :
    f = none ∧ ∃ m1 m2 v n, S' = ⟨[m0, m1, m2], v, upd (upd num pB 1) pC 2, upd tgt (pB, nC) n⟩ ∧ m1.p = pB := by
  obtain ⟨ne1, ne2, ne3, ne4⟩ := neAB
  obtain ⟨m, v, hp, hr, hl⟩ := vis_inv h
  rw [get3.2.1, mr3.2.1, rq3B] at hr
  simp only [List.length_cons, List.length_nil, List.cons_append, List.nil_append, Nat.zero_add] at hl
  have nn : upd num pB ((1 : Nat) : Int) pC = none := by unfold upd; rw [if_neg (Ne.symm ne3)]; exact hn
  have FC : ∀ n S1 f1, Fol tb3 MR3 (pB, nC) (Pa.jnB pB nC) 0 ⟨[m0, m], v, upd num pB ((1 : Nat) : Int), tgt⟩ n S1 f1 → f1 = none ∧ ∃ m2 v2, S1 = ⟨[m0, m, m2], v2, upd (upd num pB 1) pC 2, tgt⟩ := fun n S1 f1 hf => by
    rw [jn3.2.2.1] at hf
    have hv := fol_new hf prb3.2.2.1 nn (by simp)
    obtain ⟨e, m2, v2, e2⟩ := vis_C hv
    exact ⟨e, m2, v2, e2⟩
  obtain ⟨n, S1, hf, hl2⟩ := lop_go hl (m := m) (q := ⟨nC, false, 0, 0⟩) rfl (by rw [hr]; rfl) ht jn3.2.2.2.1 (fun n S1 f1 hf => (FC n S1 f1 hf).1)
  obtain ⟨_, m2, v2, rfl⟩ := FC _ _ _ hf
  obtain ⟨e1, e2⟩ := lop_done hl2 (m := { m with rs := m.rs.modify 0 fun r => { r with tg := n } }) (setT_get rfl) (by simp [hr])
  exact ⟨e2, _, m2, v2, n, e1, hp⟩
theorem load3 {r : Qn} {n : Int} {S : Sx} {f : Option Ft} (h : Fol tb3 MR3 r qA 0 S0 n S f) : f = none ∧ ∃ m0 m1 m2 t, S.ms = [m0, m1, m2] ∧ m1.p = pB ∧ m0.rs = [⟨nB, false, 0, t⟩, ⟨nC, true, 1, 2⟩] := by
  obtain ⟨ne1, ne2, ne3, ne4⟩ := neAB
  have hv := fol_new h prb3.1 rfl (by simp)
  obtain ⟨m, v, hp, hr, hl⟩ := vis_inv hv
  rw [get3.1, mr3.1, rq3A] at hr
  simp only [List.length_nil, List.nil_append] at hl
  have nB1 : upd (fun _ : ByteArray => (none : Option Int)) pA ((0 : Nat) : Int) pB = none := by unfold upd; rw [if_neg (Ne.symm ne1)]
  have nC1 : upd (fun _ : ByteArray => (none : Option Int)) pA ((0 : Nat) : Int) pC = none := by unfold upd; rw [if_neg (Ne.symm ne2)]
  have FB : ∀ n S1 f1, Fol tb3 MR3 (pA, nB) (Pa.jnB pA nB) 0 ⟨[m], v, upd (fun _ => none) pA ((0 : Nat) : Int), fun _ => none⟩ n S1 f1 → f1 = none ∧ ∃ m1 m2 v2 n', S1 = ⟨[m, m1, m2], v2, upd (upd (upd (fun _ => none) pA ((0 : Nat) : Int)) pB 1) pC 2, upd (fun _ => none) (pB, nC) n'⟩ ∧ m1.p = pB := fun n S1 f1 hf => by
    rw [jn3.1] at hf
    exact vis_B (fol_new hf prb3.2.1 nB1 (by simp)) nC1 rfl
  obtain ⟨n1, S1, hf, hl2⟩ := lop_go hl (m := m) (q := ⟨nB, false, 0, 0⟩) rfl (by rw [hr]; rfl) rfl jn3.2.1 (fun n S1 f1 hf => (FB n S1 f1 hf).1)
  obtain ⟨_, m1, m2, v2, n2, rfl, hp1⟩ := FB _ _ _ hf
  have FC : ∀ (ms : List Md) (v : Value) (tg : Qn → Option Int) n S1 f1, Fol tb3 MR3 (pA, nC) (Pa.jnB pA nC) 0 ⟨ms, v, upd (upd (upd (fun _ => none) pA ((0 : Nat) : Int)) pB 1) pC 2, tg⟩ n S1 f1 → n = 2 ∧ S1 = ⟨ms, v, upd (upd (upd (fun _ => none) pA ((0 : Nat) : Int)) pB 1) pC 2, tg⟩ ∧ f1 = none := fun ms v tg n S1 f1 hf => by
    rw [jn3.2.2.2.2.1] at hf
    exact fol_old hf prb3.2.2.1 (by simp only; unfold upd; simp)
  have k1 : (pA, nC) ≠ (pA, nB) := fun e => ne4 (congrArg Prod.snd e).symm
  have k2 : (pA, nC) ≠ (pB, nC) := fun e => ne1 (congrArg Prod.fst e)
  obtain ⟨n3, S3, hf3, hl3⟩ := lop_go hl2 (m := { m with rs := m.rs.modify 0 fun r => { r with tg := n1 } }) (q := ⟨nC, true, 1, 0⟩) (setT_get rfl) (by rw [hr]; rfl) (by unfold setT upd; simp only; rw [if_neg k1, if_neg k2]) jn3.2.2.2.2.2 (fun n S1 f1 hf => (FC _ _ _ n S1 f1 hf).2.2)
  obtain ⟨rfl, rfl, _⟩ := FC _ _ _ _ _ _ hf3
  obtain ⟨rfl, e2⟩ := lop_done hl3 (setT_get rfl) (by simp [hr])
  refine ⟨e2, _, m1, m2, n1, rfl, hp1, ?_⟩
  simp only [hr]
  rfl
theorem load3d {r : Qn} {n : Int} {S : Sx} {f : Option Ft} (h : Fol tb3 MR3 r qD 0 S0 n S f) : f = some (r, 100) := fol_miss h prb3.2.2.2
end Go.Proofs.YtdpajlopdgapeaaGreatDoor
