/- Own text. Package graph: what Load does with the three files that every statement of stage 10 begins with. Package module: Module at the sources of a chain of modules (import './m00'; and so on), and at the empty one. Package graph: what Load does with a chain of modules. -/
import Derived.Test.YtfehmdfamndcaaaGreatDoorGm28
import Derived.Test.YtfehmdfamndcaaaGreatDoorGm43
import Derived.Test.YtfehmdfamndcaaaGreatDoorGm45
namespace Go.Proofs.YtfehmdfamndcaaaGreatDoor
open Go.RowKit Go.MapKept
set_option linter.unusedVariables false
set_option linter.unusedSimpArgs false

def pA : ByteArray := ⟨#[47, 97, 46, 116, 115]⟩
def pB : ByteArray := ⟨#[47, 98, 46, 116, 115]⟩
def pC : ByteArray := ⟨#[47, 99, 46, 116, 115]⟩
def qA : ByteArray := ⟨#[47, 97]⟩
def qB : ByteArray := ⟨#[47, 98]⟩
def qC : ByteArray := ⟨#[47, 99]⟩
def qD : ByteArray := ⟨#[47, 100]⟩
def eA : ByteArray := ⟨#[47, 120, 47, 46, 46, 47, 97]⟩
def tb3 : Fls := [(pA, srcA), (pB, srcB), (pC, srcC)]
def MR3 (s : ByteArray) : Nd := if s.data = srcA.data then modA else if s.data = srcB.data then modB else modC
theorem eqB_d (a b : ByteArray) : eqB a b = (a.data.toList == b.data.toList) := by unfold eqB; rw [Lib.toList_data, Lib.toList_data]
theorem lessB_d (a b : ByteArray) : lessB a b = Op.bytesLess a.data.toList b.data.toList := by unfold lessB; rw [Lib.toList_data, Lib.toList_data]
theorem wrs3 : wrs tb3 = tb3 := by
  have l1 : lessB pA pB = true := by rw [lessB_d]; kernel_rfl
  have l2 : lessB pA pC = true := by rw [lessB_d]; kernel_rfl
  have l3 : lessB pB pC = true := by rw [lessB_d]; kernel_rfl
  have z1 : srcA.size ≤ 65536 := by decide
  have z2 : srcB.size ≤ 65536 := by decide
  have z3 : srcC.size ≤ 65536 := by decide
  simp [wrs, tb3, Vf.wrL, ins, l1, l2, l3, z1, z2, z3]
theorem hasF : (fun q => hasP q tb3) = fun q => tb3.any fun x => x.1.data.toList == q.data.toList := by
  funext q
  unfold hasP
  congr 1
  funext x
  exact eqB_d _ _
theorem has3 {f : ByteArray} (h : hasP f tb3 = true) : f = pA ∨ f = pB ∨ f = pC := by
  unfold hasP tb3 at h
  simp only [List.any_cons, List.any_nil, Bool.or_false, Bool.or_eq_true] at h
  have k : ∀ p : ByteArray, eqB p f = true → f = p := fun p hp => by
    unfold eqB at hp
    exact (toList_inj (by simpa using hp)).symm
  rcases h with h | h | h
  · exact .inl (k _ h)
  · exact .inr (.inl (k _ h))
  · exact .inr (.inr (k _ h))
theorem get3 : getP pA tb3 = srcA ∧ getP pB tb3 = srcB ∧ getP pC tb3 = srcC := by
  have e : ∀ p, getP p tb3 = match tb3.find? (fun x => x.1.data.toList == p.data.toList) with | some x => x.2 | none => ByteArray.empty := fun p => by
    unfold getP
    simp only [eqB_d]
    cases List.find? (fun x => x.1.data.toList == p.data.toList) tb3 <;> rfl
  rw [e, e, e]
  exact ⟨by kernel_rfl, by kernel_rfl, by kernel_rfl⟩
theorem mr3 : MR3 srcA = modA ∧ MR3 srcB = modB ∧ MR3 srcC = modC := by
  have h1 : srcB.data ≠ srcA.data := by decide
  have h2 : srcC.data ≠ srcA.data := by decide
  have h3 : srcC.data ≠ srcB.data := by decide
  unfold MR3
  exact ⟨by rw [if_pos rfl], by rw [if_neg h1, if_pos rfl], by rw [if_neg h2, if_neg h3]⟩
theorem mok3 : MOk tb3 MR3 := by
  obtain ⟨g1, g2, g3⟩ := get3
  obtain ⟨m1, m2, m3⟩ := mr3
  refine ⟨fun W file he hh => ?_, fun file hh => ?_, fun file hh => ?_⟩
  · rcases has3 hh with rfl | rfl | rfl
    · rw [g1, m1]; exact module_A W he
    · rw [g2, m2]; exact module_B W he
    · rw [g3, m3]; exact module_C W he
  · rcases has3 hh with rfl | rfl | rfl
    · rw [g1, m1]; decide
    · rw [g2, m2]; decide
    · rw [g3, m3]; decide
  · rcases has3 hh with rfl | rfl | rfl
    · rw [g1, m1]; decide
    · rw [g2, m2]; decide
    · rw [g3, m3]; decide
theorem rq3A : reqsL modA = [⟨nB, false, 0, 0⟩, ⟨nC, true, 1, 0⟩] := by rfl
theorem rq3B : reqsL modB = [⟨nC, false, 0, 0⟩] := by rfl
theorem rq3C : reqsL modC = [] := by rfl
theorem prb3 : prbF (fun q => hasP q tb3) qA = some pA ∧ prbF (fun q => hasP q tb3) qB = some pB ∧ prbF (fun q => hasP q tb3) qC = some pC ∧ prbF (fun q => hasP q tb3) qD = none := by
  rw [hasF]
  exact ⟨by kernel_rfl, by kernel_rfl, by kernel_rfl, by kernel_rfl⟩
theorem nrm3 : Pa.nrmB eA = qA ∧ Pa.nrmE eA = 0 ∧ Pa.nrmB qD = qD ∧ Pa.nrmE qD = 0 := ⟨by kernel_rfl, by kernel_rfl, by kernel_rfl, by kernel_rfl⟩
theorem jn3 : Pa.jnB pA nB = qB ∧ Pa.jnE pA nB = 0 ∧ Pa.jnB pB nC = qC ∧ Pa.jnE pB nC = 0 ∧ Pa.jnB pA nC = qC ∧ Pa.jnE pA nC = 0 := ⟨by kernel_rfl, by kernel_rfl, by kernel_rfl, by kernel_rfl, by kernel_rfl, by kernel_rfl⟩
section
variable {L : Fls} {MR : ByteArray → Nd}
theorem fol_new {r : Qn} {p file : ByteArray} {S S' : Sx} {n : Int} {f : Option Ft} (h : Fol L MR r p 0 S n S' f) (hp : prbF (fun q => hasP q L) p = some file) (hn : S.num file = none) (hl : S.ms.length ≠ 64) : Vis L MR file S S' f := by
  cases h with
  | err he => exact absurd rfl he
  | miss h => rw [hp] at h; cases h
  | old h1 h2 => rw [hp] at h1; cases h1; rw [hn] at h2; cases h2
  | many h1 h2 h3 => exact absurd h3 hl
  | new h1 _ _ hv => rw [hp] at h1; cases h1; exact hv
theorem fol_old {r : Qn} {p file : ByteArray} {S S' : Sx} {n m : Int} {f : Option Ft} (h : Fol L MR r p 0 S n S' f) (hp : prbF (fun q => hasP q L) p = some file) (hn : S.num file = some m) : n = m ∧ S' = S ∧ f = none := by
  cases h with
  | err he => exact absurd rfl he
  | miss h => rw [hp] at h; cases h
  | old h1 h2 => rw [hp] at h1; cases h1; rw [hn] at h2; cases h2; exact ⟨rfl, rfl, rfl⟩
  | many h1 h2 h3 => rw [hp] at h1; cases h1; rw [hn] at h2; cases h2
  | new h1 h2 _ hv => rw [hp] at h1; cases h1; rw [hn] at h2; cases h2
theorem fol_miss {r : Qn} {p : ByteArray} {S S' : Sx} {n : Int} {f : Option Ft} (h : Fol L MR r p 0 S n S' f) (hp : prbF (fun q => hasP q L) p = none) : f = some (r, 100) := by
  cases h with
  | err he => exact absurd rfl he
  | miss h => rfl
  | old h1 h2 => rw [hp] at h1; cases h1
  | many h1 h2 h3 => rw [hp] at h1; cases h1
  | new h1 h2 _ hv => rw [hp] at h1; cases h1
theorem lop_done {file : ByteArray} {a i : Nat} {S S' : Sx} {f : Option Ft} {m : Md} (h : Lop L MR file a i S S' f) (hm : S.ms[a]? = some m) (hi : m.rs.length ≤ i) : S' = S ∧ f = none := by
  cases h with
  | done h1 h2 => exact ⟨rfl, rfl⟩
  | bad h1 h2 h3 => rw [hm] at h1; cases h1; rw [List.getElem?_eq_none hi] at h2; cases h2
  | go h1 h2 h3 h4 => rw [hm] at h1; cases h1; rw [List.getElem?_eq_none hi] at h2; cases h2
/-- a round of the loop whose request is followed well. -/
theorem lop_go {file : ByteArray} {a i : Nat} {S S' : Sx} {f : Option Ft} {m : Md} {q : Rq} (h : Lop L MR file a i S S' f) (hm : S.ms[a]? = some m) (hq : m.rs[i]? = some q) (ht : S.tgt (file, q.t) = none) (hE : Pa.jnE file q.t = 0)
    (HF : ∀ n S1 f1, Fol L MR (file, q.t) (Pa.jnB file q.t) 0 S n S1 f1 → f1 = none) : ∃ n S1, Fol L MR (file, q.t) (Pa.jnB file q.t) 0 S n S1 none ∧ Lop L MR file a (i + 1) (setT { S1 with tgt := upd S1.tgt (file, q.t) n } a i n) S' f := by
  have hlt : i < m.rs.length := (List.getElem?_eq_some_iff.1 hq).1
  cases h with
  | done h1 h2 => rw [hm] at h1; cases h1; omega
  | bad h1 h2 h3 =>
    rw [hm] at h1; cases h1; rw [hq] at h2; cases h2
    cases h3 with
    | bad _ hf => rw [hE] at hf; have := HF _ _ _ hf; cases this
  | go h1 h2 h3 h4 =>
    rw [hm] at h1; cases h1; rw [hq] at h2; cases h2
    cases h3 with
    | old h => rw [ht] at h; cases h
    | go _ hf => rw [hE] at hf; exact ⟨_, _, hf, h4⟩
theorem vis_inv {file : ByteArray} {S S' : Sx} {f : Option Ft} (h : Vis L MR file S S' f) : ∃ m v, m.p = file ∧ m.rs = reqsL (MR (getP file L)) ∧ Lop L MR file S.ms.length 0 ⟨S.ms ++ [m], v, upd S.num file (S.ms.length : Nat), S.tgt⟩ S' f := by
  cases h with
  | mk m v hp hr h => exact ⟨m, v, hp, hr, h⟩
end
theorem upd_same {κ υ : Type} [DecidableEq κ] (f : κ → Option υ) (k : κ) (v : υ) : upd f k v k = some v := by unfold upd; exact if_pos rfl
theorem neAB : pA ≠ pB ∧ pA ≠ pC ∧ pB ≠ pC ∧ nB ≠ nC := by
  refine ⟨?_, ?_, ?_, ?_⟩ <;> intro e <;> (have := congrArg (fun x : ByteArray => x.data) e; revert this; decide)
theorem vis_C {S S' : Sx} {f : Option Ft} (h : Vis tb3 MR3 pC S S' f) : f = none ∧ ∃ m v, S' = ⟨S.ms ++ [m], v, upd S.num pC (S.ms.length : Nat), S.tgt⟩ := by
  obtain ⟨m, v, hp, hr, hl⟩ := vis_inv h
  rw [get3.2.2, mr3.2.2, rq3C] at hr
  obtain ⟨e1, e2⟩ := lop_done hl (m := m) (by simp) (by rw [hr]; simp)
  exact ⟨e2, m, v, e1⟩
theorem vis_B {m0 : Md} {v : Value} {num : ByteArray → Option Int} {tgt : Qn → Option Int} {S' : Sx} {f : Option Ft} (h : Vis tb3 MR3 pB ⟨[m0], v, num, tgt⟩ S' f) (hn : num pC = none) (ht : tgt (pB, nC) = none) :
    f = none ∧ ∃ m1 m2 v n, S' = ⟨[m0, m1, m2], v, upd (upd num pB 1) pC 2, upd tgt (pB, nC) n⟩ ∧ m1.p = pB := by
  obtain ⟨ne1, ne2, ne3, ne4⟩ := neAB
  obtain ⟨m, v, hp, hr, hl⟩ := vis_inv h
  rw [get3.2.1, mr3.2.1, rq3B] at hr
  simp only [List.length_cons, List.length_nil, List.cons_append, List.nil_append, Nat.zero_add] at hl
  have nn : upd num pB ((1 : Nat) : Int) pC = none := by unfold upd; rw [if_neg (Ne.symm ne3)]; exact hn
  have FC : ∀ n S1 f1, Fol tb3 MR3 (pB, nC) (Pa.jnB pB nC) 0 ⟨[m0, m], v, upd num pB ((1 : Nat) : Int), tgt⟩ n S1 f1 → f1 = none ∧ ∃ m2 v2, S1 = ⟨[m0, m, m2], v2, upd (upd num pB 1) pC 2, tgt⟩ := fun n S1 f1 hf => by
    rw [jn3.2.2.1] at hf
    have hv := fol_new hf prb3.2.2.1 nn (by simp)
    obtain ⟨e, m2, v2, e2⟩ := vis_C hv
    exact ⟨e, m2, v2, e2⟩
  obtain ⟨n, S1, hf, hl2⟩ := lop_go hl (m := m) (q := ⟨nC, false, 0, 0⟩) rfl (by rw [hr]; rfl) ht jn3.2.2.2.1 (fun n S1 f1 hf => (FC n S1 f1 hf).1)
  obtain ⟨_, m2, v2, rfl⟩ := FC _ _ _ hf
  obtain ⟨e1, e2⟩ := lop_done hl2 (m := { m with rs := m.rs.modify 0 fun r => { r with tg := n } }) (setT_get rfl) (by simp [hr])
  exact ⟨e2, _, m2, v2, n, e1, hp⟩
theorem load3 {r : Qn} {n : Int} {S : Sx} {f : Option Ft} (h : Fol tb3 MR3 r qA 0 S0 n S f) : f = none ∧ ∃ m0 m1 m2 t, S.ms = [m0, m1, m2] ∧ m1.p = pB ∧ m0.rs = [⟨nB, false, 0, t⟩, ⟨nC, true, 1, 2⟩] := by
  obtain ⟨ne1, ne2, ne3, ne4⟩ := neAB
  have hv := fol_new h prb3.1 rfl (by simp)
  obtain ⟨m, v, hp, hr, hl⟩ := vis_inv hv
  rw [get3.1, mr3.1, rq3A] at hr
  simp only [List.length_nil, List.nil_append] at hl
  have nB1 : upd (fun _ : ByteArray => (none : Option Int)) pA ((0 : Nat) : Int) pB = none := by unfold upd; rw [if_neg (Ne.symm ne1)]
  have nC1 : upd (fun _ : ByteArray => (none : Option Int)) pA ((0 : Nat) : Int) pC = none := by unfold upd; rw [if_neg (Ne.symm ne2)]
  have FB : ∀ n S1 f1, Fol tb3 MR3 (pA, nB) (Pa.jnB pA nB) 0 ⟨[m], v, upd (fun _ => none) pA ((0 : Nat) : Int), fun _ => none⟩ n S1 f1 → f1 = none ∧ ∃ m1 m2 v2 n', S1 = ⟨[m, m1, m2], v2, upd (upd (upd (fun _ => none) pA ((0 : Nat) : Int)) pB 1) pC 2, upd (fun _ => none) (pB, nC) n'⟩ ∧ m1.p = pB := fun n S1 f1 hf => by
    rw [jn3.1] at hf
    exact vis_B (fol_new hf prb3.2.1 nB1 (by simp)) nC1 rfl
  obtain ⟨n1, S1, hf, hl2⟩ := lop_go hl (m := m) (q := ⟨nB, false, 0, 0⟩) rfl (by rw [hr]; rfl) rfl jn3.2.1 (fun n S1 f1 hf => (FB n S1 f1 hf).1)
  obtain ⟨_, m1, m2, v2, n2, rfl, hp1⟩ := FB _ _ _ hf
  have FC : ∀ (ms : List Md) (v : Value) (tg : Qn → Option Int) n S1 f1, Fol tb3 MR3 (pA, nC) (Pa.jnB pA nC) 0 ⟨ms, v, upd (upd (upd (fun _ => none) pA ((0 : Nat) : Int)) pB 1) pC 2, tg⟩ n S1 f1 → n = 2 ∧ S1 = ⟨ms, v, upd (upd (upd (fun _ => none) pA ((0 : Nat) : Int)) pB 1) pC 2, tg⟩ ∧ f1 = none := fun ms v tg n S1 f1 hf => by
    rw [jn3.2.2.2.2.1] at hf
    exact fol_old hf prb3.2.2.1 (by simp only; unfold upd; simp)
  have k1 : (pA, nC) ≠ (pA, nB) := fun e => ne4 (congrArg Prod.snd e).symm
  have k2 : (pA, nC) ≠ (pB, nC) := fun e => ne1 (congrArg Prod.fst e)
  obtain ⟨n3, S3, hf3, hl3⟩ := lop_go hl2 (m := { m with rs := m.rs.modify 0 fun r => { r with tg := n1 } }) (q := ⟨nC, true, 1, 0⟩) (setT_get rfl) (by rw [hr]; rfl) (by unfold setT upd; simp only; rw [if_neg k1, if_neg k2]) jn3.2.2.2.2.2 (fun n S1 f1 hf => (FC _ _ _ n S1 f1 hf).2.2)
  obtain ⟨rfl, rfl, _⟩ := FC _ _ _ _ _ _ hf3
  obtain ⟨rfl, e2⟩ := lop_done hl3 (setT_get rfl) (by simp [hr])
  refine ⟨e2, _, m1, m2, n1, rfl, hp1, ?_⟩
  simp only [hr]
  rfl
theorem load3d {r : Qn} {n : Int} {S : Sx} {f : Option Ft} (h : Fol tb3 MR3 r qD 0 S0 n S f) : f = some (r, 100) := fol_miss h prb3.2.2.2
end Go.Proofs.YtfehmdfamndcaaaGreatDoor
namespace Go.Proofs.YtfehmdfamndcaaaGreatDoor
open Go.RowKit
set_option linter.unusedVariables false
set_option linter.unusedSimpArgs false

/-- the two digits of a number. -/
def dig (i : Nat) : List UInt8 := [UInt8.ofNat (48 + i / 10), UInt8.ofNat (48 + i % 10)]
def srcM (i : Nat) : ByteArray := ⟨([105, 109, 112, 111, 114, 116, 32, 39, 46, 47, 109] ++ dig i ++ [39, 59]).toArray⟩
def nM (i : Nat) : ByteArray := ⟨([46, 47, 109] ++ dig i).toArray⟩
def tkM (i : Nat) : List (Tk × Nat) := [((2, [105, 109, 112, 111, 114, 116], 0), 0), ((4, [46, 47, 109] ++ dig i, 0), 7), ((5, [59], 0), 14)]
set_option maxRecDepth 100000 in
theorem lexM : ∀ (i : Nat), i < 72 → lexL 0 (srcM i).data.toList false = .ok (tkM i)
  | 0, _ => by kernel_rfl
  | 1, _ => by kernel_rfl
  | 2, _ => by kernel_rfl
  | 3, _ => by kernel_rfl
  | 4, _ => by kernel_rfl
  | 5, _ => by kernel_rfl
  | 6, _ => by kernel_rfl
  | 7, _ => by kernel_rfl
  | 8, _ => by kernel_rfl
  | 9, _ => by kernel_rfl
  | 10, _ => by kernel_rfl
  | 11, _ => by kernel_rfl
  | 12, _ => by kernel_rfl
  | 13, _ => by kernel_rfl
  | 14, _ => by kernel_rfl
  | 15, _ => by kernel_rfl
  | 16, _ => by kernel_rfl
  | 17, _ => by kernel_rfl
  | 18, _ => by kernel_rfl
  | 19, _ => by kernel_rfl
  | 20, _ => by kernel_rfl
  | 21, _ => by kernel_rfl
  | 22, _ => by kernel_rfl
  | 23, _ => by kernel_rfl
  | 24, _ => by kernel_rfl
  | 25, _ => by kernel_rfl
  | 26, _ => by kernel_rfl
  | 27, _ => by kernel_rfl
  | 28, _ => by kernel_rfl
  | 29, _ => by kernel_rfl
  | 30, _ => by kernel_rfl
  | 31, _ => by kernel_rfl
  | 32, _ => by kernel_rfl
  | 33, _ => by kernel_rfl
  | 34, _ => by kernel_rfl
  | 35, _ => by kernel_rfl
  | 36, _ => by kernel_rfl
  | 37, _ => by kernel_rfl
  | 38, _ => by kernel_rfl
  | 39, _ => by kernel_rfl
  | 40, _ => by kernel_rfl
  | 41, _ => by kernel_rfl
  | 42, _ => by kernel_rfl
  | 43, _ => by kernel_rfl
  | 44, _ => by kernel_rfl
  | 45, _ => by kernel_rfl
  | 46, _ => by kernel_rfl
  | 47, _ => by kernel_rfl
  | 48, _ => by kernel_rfl
  | 49, _ => by kernel_rfl
  | 50, _ => by kernel_rfl
  | 51, _ => by kernel_rfl
  | 52, _ => by kernel_rfl
  | 53, _ => by kernel_rfl
  | 54, _ => by kernel_rfl
  | 55, _ => by kernel_rfl
  | 56, _ => by kernel_rfl
  | 57, _ => by kernel_rfl
  | 58, _ => by kernel_rfl
  | 59, _ => by kernel_rfl
  | 60, _ => by kernel_rfl
  | 61, _ => by kernel_rfl
  | 62, _ => by kernel_rfl
  | 63, _ => by kernel_rfl
  | 64, _ => by kernel_rfl
  | 65, _ => by kernel_rfl
  | 66, _ => by kernel_rfl
  | 67, _ => by kernel_rfl
  | 68, _ => by kernel_rfl
  | 69, _ => by kernel_rfl
  | 70, _ => by kernel_rfl
  | 71, _ => by kernel_rfl
  | n + 72, h => by omega
def impM (i : Nat) : Nd := .mk 60 (nM i) 0 []
def modM (i : Nat) : Nd := .mk 68 mtT 0 [impM i]
def modE : Nd := .mk 68 mtT 0 []
def fM (i a : Nat) : Rs Nd := if a = 0 then .ok (impM i) 3 else .bad 0 60
theorem module_M (i : Nat) (hi : i < 72) (w : World) (he : Env w) : Calls Tryz.prog 27 #[.string (srcM i)] w (AnsF w ⟨modM i, 0, 0⟩) := by
  refine module_of (srcM i) w _ (fun o => whole_f (srcM i) _ (env_below he (bel_a w o)) (by simp [srcM, dig, ByteArray.size]) (lexM i hi) (by simp [tkM]) (fun x hx => by
      simp only [tkM, List.mem_cons, List.not_mem_nil, or_false] at hx
      rcases hx with rfl | rfl | rfl <;> simp [dig]) (fM i) (.cons (by simp [tkM]) (by decide) (show fM i 0 = .ok (impM i) 3 from rfl) .nil) ?_ (by simp) (by rw [Nd.size_eq]; show 1 + sizes [impM i] ≤ _; rw [sizes_cons, sizes_nil, Nd.size_eq]; show 1 + (1 + sizes [] + 0) ≤ _; rw [sizes_nil]; decide) (by rfl))
  intro a x b hx ha W v hv
  by_cases h0 : a = 0
  · subst h0
    obtain ⟨rfl, rfl⟩ : impM i = x ∧ 3 = b := by unfold fM at hx; rw [if_pos rfl] at hx; cases hx; exact ⟨rfl, rfl⟩
    exact read_import (by kernel_rfl) (by kernel_rfl) (by kernel_rfl) W v hv
  · unfold fM at hx
    rw [if_neg h0] at hx
    cases hx
theorem module_E (w : World) (he : Env w) : Calls Tryz.prog 27 #[.string ⟨#[]⟩] w (AnsF w ⟨modE, 0, 0⟩) := by
  refine module_of ⟨#[]⟩ w _ (fun o => whole_f ⟨#[]⟩ _ (env_below he (bel_a w o)) (by decide) (ts := []) (by kernel_rfl) (by decide) (by decide) (fun _ => .bad 0 60) .nil ?_ (by decide) (by decide) (by rfl))
  intro a x b hx
  cases hx
end Go.Proofs.YtfehmdfamndcaaaGreatDoor
namespace Go.Proofs.YtfehmdfamndcaaaGreatDoor
open Go.RowKit Go.MapKept
set_option linter.unusedVariables false
set_option linter.unusedSimpArgs false

/-- the path of a number. -/
def pM (i : Nat) : ByteArray := ⟨([47, 109] ++ dig i).toArray⟩
/-- the files of a chain: so many ask for the next, the last for none. -/
def chF (n : Nat) : Fls := (List.range n).map (fun i => (pM i, srcM (i + 1))) ++ [(pM n, ⟨#[]⟩)]
theorem lessM : ∀ i, i < 72 → ∀ j, j < 72 → i < j → lessB (pM i) (pM j) = true := by
  have h : ∀ i, i < 72 → ∀ j, j < 72 → i < j → Op.bytesLess (pM i).data.toList (pM j).data.toList = true := by decide +kernel
  intro i hi j hj hij
  rw [lessB_d]
  exact h i hi j hj hij
theorem jnM : ∀ i, i < 71 → Pa.jnB (pM i) (nM (i + 1)) = pM (i + 1) ∧ Pa.jnE (pM i) (nM (i + 1)) = 0 := by
  have h : ∀ i, i < 71 → (Pa.jnB (pM i) (nM (i + 1))).data.toList = (pM (i + 1)).data.toList ∧ Pa.jnE (pM i) (nM (i + 1)) = 0 := by decide +kernel
  intro i hi
  refine ⟨?_, (h i hi).2⟩
  exact ByteArray.ext (Array.toList_inj.1 (h i hi).1)
theorem nrmM : Pa.nrmB (pM 0) = pM 0 ∧ Pa.nrmE (pM 0) = 0 := ⟨by kernel_rfl, by kernel_rfl⟩
theorem pM_inj {i j : Nat} (hi : i < 72) (hj : j < 72) (h : pM i = pM j) : i = j := by
  have irr : ∀ k, k < 72 → lessB (pM k) (pM k) = false := by
    have h : ∀ k, k < 72 → Op.bytesLess (pM k).data.toList (pM k).data.toList = false := by decide +kernel
    intro k hk
    rw [lessB_d]
    exact h k hk
  rcases Nat.lt_trichotomy i j with q | q | q
  · have := lessM i hi j hj q
    rw [h, irr j hj] at this
    cases this
  · exact q
  · have := lessM j hj i hi q
    rw [h, irr j hj] at this
    cases this
theorem ins_end {p b : ByteArray} : ∀ {L : Fls}, (∀ x ∈ L, lessB x.1 p = true) → ins p b L = L ++ [(p, b)]
  | [], _ => rfl
  | x :: r, h => by
    unfold ins
    rw [if_pos (h x List.mem_cons_self), ins_end (fun y hy => h y (List.mem_cons_of_mem _ hy))]
    rfl
theorem wrs_ris (F : Fls) : ∀ G : Fls, (∀ x ∈ G, x.2.size ≤ 65536) → (F ++ G).Pairwise (fun x y => lessB x.1 y.1 = true) → G.foldl (fun L x => Vf.wrL x.1 x.2 L) F = F ++ G
  | G, hz, h => by
    induction G generalizing F with
    | nil => simp
    | cons x G ih =>
      rw [List.foldl_cons]
      have e : Vf.wrL x.1 x.2 F = F ++ [x] := by
        unfold Vf.wrL
        rw [if_pos (hz x List.mem_cons_self)]
        exact ins_end (fun y hy => (List.pairwise_append.1 h).2.2 y hy x List.mem_cons_self)
      rw [e, ih (F ++ [x]) (fun y hy => hz y (List.mem_cons_of_mem _ hy)) (by simpa using h)]
      simp
theorem chF_len (n : Nat) : (chF n).length = n + 1 := by simp [chF]
theorem chF_get (n i : Nat) (hi : i ≤ n) : (chF n)[i]? = some (pM i, if i < n then srcM (i + 1) else ⟨#[]⟩) := by
  unfold chF
  by_cases h : i < n
  · rw [List.getElem?_append_left (by simpa using h), if_pos h]
    simp [h]
  · have e : i = n := by omega
    subst e
    rw [List.getElem?_append_right (by simp), if_neg h]
    simp
theorem chF_mem {n : Nat} {x : ByteArray × ByteArray} (h : x ∈ chF n) : ∃ i, i ≤ n ∧ x = (pM i, if i < n then srcM (i + 1) else ⟨#[]⟩) := by
  obtain ⟨i, hi⟩ := List.mem_iff_getElem?.1 h
  have hl : i < n + 1 := by have := (List.getElem?_eq_some_iff.1 hi).1; rw [chF_len] at this; exact this
  rw [chF_get n i (by omega)] at hi
  exact ⟨i, by omega, by injection hi with hi; exact hi.symm⟩
theorem chF_ris {n : Nat} (hn : n < 72) : (chF n).Pairwise (fun x y => lessB x.1 y.1 = true) := by
  rw [List.pairwise_iff_getElem]
  intro i j hi hj hij
  have hli : i < n + 1 := by rw [chF_len] at hi; exact hi
  have hlj : j < n + 1 := by rw [chF_len] at hj; exact hj
  have gi := chF_get n i (by omega)
  have gj := chF_get n j (by omega)
  rw [List.getElem?_eq_getElem hi] at gi
  rw [List.getElem?_eq_getElem hj] at gj
  injection gi with gi
  injection gj with gj
  rw [gi, gj]
  exact lessM i (by omega) j (by omega) hij
theorem wrsM {n : Nat} (hn : n < 72) : wrs (chF n) = chF n := by
  have := wrs_ris [] (chF n) (fun x hx => by
    obtain ⟨i, hi, rfl⟩ := chF_mem hx
    simp only
    split
    · simp [srcM, dig, ByteArray.size]
    · decide) (by simpa using chF_ris hn)
  simpa [wrs] using this
theorem hasM {n : Nat} {f : ByteArray} (h : hasP f (chF n) = true) : ∃ i, i ≤ n ∧ f = pM i := by
  unfold hasP at h
  obtain ⟨x, hx, e⟩ := List.any_eq_true.1 h
  obtain ⟨i, hi, rfl⟩ := chF_mem hx
  exact ⟨i, hi, (eqB_iff.1 e).symm⟩
theorem hasM' {n i : Nat} (hi : i ≤ n) : hasP (pM i) (chF n) = true := by
  unfold hasP
  exact List.any_eq_true.2 ⟨_, List.mem_of_getElem? (chF_get n i hi), eqB_iff.2 rfl⟩
theorem getM {n i : Nat} (hn : n < 72) (hi : i ≤ n) : getP (pM i) (chF n) = if i < n then srcM (i + 1) else ⟨#[]⟩ := by
  unfold getP
  have : (chF n).find? (fun x => eqB x.1 (pM i)) = some (pM i, if i < n then srcM (i + 1) else ⟨#[]⟩) := by
    cases hf : (chF n).find? (fun x => eqB x.1 (pM i)) with
    | none =>
      have := List.find?_eq_none.1 hf _ (List.mem_of_getElem? (chF_get n i hi))
      exact absurd (eqB_iff.2 rfl) this
    | some y =>
      obtain ⟨j, hj, rfl⟩ := chF_mem (List.mem_of_find?_eq_some hf)
      have e0 := List.find?_some hf
      simp only at e0
      have e := eqB_iff.1 e0
      have := pM_inj (by omega) (by omega) e
      subst this
      rfl
  rw [this]
theorem prbM {n i : Nat} (hn : n < 72) (hi : i ≤ n) : prbF (fun q => hasP q (chF n)) (pM i) = some (pM i) := by
  have e : Pa.prb (pM i).data.toList = (pM i).data.toList :: (Pa.prb (pM i).data.toList).tail := by
    unfold Pa.prb Pa.endS
    simp [pM, dig]
  unfold prbF
  rw [e, List.map_cons, List.find?_cons]
  have e2 : baL (pM i).data.toList = pM i := by simp [baL]
  rw [e2, hasM' hi]
/-- what Module reads. -/
def MRM (s : ByteArray) : Nd := match (List.range 72).find? (fun i => (srcM i).data.toList == s.data.toList) with | some i => modM i | none => modE
theorem mrM {i : Nat} (hi : i < 72) : MRM (srcM i) = modM i := by
  have h : ∀ i, i < 72 → (List.range 72).find? (fun j => (srcM j).data.toList == (srcM i).data.toList) = some i := by decide +kernel
  unfold MRM
  rw [h i hi]
theorem mrE : MRM ⟨#[]⟩ = modE := by
  have h : (List.range 72).find? (fun j => (srcM j).data.toList == (⟨#[]⟩ : ByteArray).data.toList) = none := by decide +kernel
  unfold MRM
  rw [h]
theorem mokM {n : Nat} (hn : n < 71) : MOk (chF n) MRM := by
  have key : ∀ {file : ByteArray}, hasP file (chF n) = true → (∃ i, i < 72 ∧ getP file (chF n) = srcM i ∧ MRM (getP file (chF n)) = modM i) ∨ (getP file (chF n) = ⟨#[]⟩ ∧ MRM (getP file (chF n)) = modE) := fun {file} hh => by
    obtain ⟨i, hi, rfl⟩ := hasM hh
    rw [getM (by omega) hi]
    by_cases q : i < n
    · rw [if_pos q]; exact .inl ⟨i + 1, by omega, rfl, mrM (by omega)⟩
    · rw [if_neg q]; exact .inr ⟨rfl, mrE⟩
  refine ⟨fun W file he hh => ?_, fun file hh => ?_, fun file hh => ?_⟩
  · rcases key hh with ⟨i, hi, e1, e2⟩ | ⟨e1, e2⟩
    · rw [e2, e1]; exact module_M i hi W he
    · rw [e2, e1]; exact module_E W he
  · rcases key hh with ⟨i, hi, e1, e2⟩ | ⟨e1, e2⟩
    · rw [e2]; show 1 ≤ _; omega
    · rw [e2]; show 0 ≤ _; omega
  · rcases key hh with ⟨i, hi, e1, e2⟩ | ⟨e1, e2⟩
    · rw [e2]
      intro y hy
      have hy : y ∈ [impM i] := hy
      rw [List.mem_singleton] at hy
      rw [hy]
      show (nM i).size ≤ _
      simp [nM, dig, ByteArray.size]
    · rw [e2]
      intro y hy
      cases hy
theorem rqM (i : Nat) : reqsL (modM i) = [⟨nM i, false, 0, 0⟩] := rfl
theorem rqE : reqsL modE = [] := rfl
section
variable {L : Fls} {MR : ByteArray → Nd}
/-- a round of the loop, however its request is followed. -/
theorem lop_any {file : ByteArray} {a i : Nat} {S S' : Sx} {f : Option Ft} {m : Md} {q : Rq} (h : Lop L MR file a i S S' f) (hm : S.ms[a]? = some m) (hq : m.rs[i]? = some q) (ht : S.tgt (file, q.t) = none) (hE : Pa.jnE file q.t = 0) :
    ∃ n S1 f1, Fol L MR (file, q.t) (Pa.jnB file q.t) 0 S n S1 f1 ∧ (f1 = none → Lop L MR file a (i + 1) (setT { S1 with tgt := upd S1.tgt (file, q.t) n } a i n) S' f) ∧ ∀ x, f1 = some x → f = some x := by
  have hlt : i < m.rs.length := (List.getElem?_eq_some_iff.1 hq).1
  cases h with
  | done h1 h2 => rw [hm] at h1; cases h1; omega
  | bad h1 h2 h3 =>
    rw [hm] at h1; cases h1; rw [hq] at h2; cases h2
    cases h3 with
    | bad _ hf => rw [hE] at hf; exact ⟨_, _, _, hf, (fun h => by cases h), fun x hx => by cases hx; rfl⟩
  | go h1 h2 h3 h4 =>
    rw [hm] at h1; cases h1; rw [hq] at h2; cases h2
    cases h3 with
    | old h => rw [ht] at h; cases h
    | go _ hf => rw [hE] at hf; exact ⟨_, _, _, hf, fun _ => h4, (fun x hx => by cases hx)⟩
theorem fol_many {r : Qn} {p file : ByteArray} {S S' : Sx} {n : Int} {f : Option Ft} (h : Fol L MR r p 0 S n S' f) (hp : prbF (fun q => hasP q L) p = some file) (hn : S.num file = none) (hl : S.ms.length = 64) : f = some (r, 101) := by
  cases h with
  | err he => exact absurd rfl he
  | miss h => rw [hp] at h; cases h
  | old h1 h2 => rw [hp] at h1; cases h1; rw [hn] at h2; cases h2
  | many h1 h2 h3 => rfl
  | new h1 _ h3 hv => exact absurd hl h3
/-- a visit adds modules at the end. -/
theorem setT_len (S : Sx) (a i : Nat) (n : Int) : (setT S a i n).ms.length = S.ms.length := by unfold setT; simp
end
/-- the chain from the k-th module on. -/
theorem chain {n : Nat} (hn : n < 71) : ∀ (d k : Nat) (S S' : Sx) (f : Option Ft), n = k + d → k < 64 → S.ms.length = k → (∀ j, k ≤ j → j ≤ n → S.num (pM j) = none) → (∀ j t, k ≤ j → j ≤ n → S.tgt (pM j, t) = none) → Vis (chF n) MRM (pM k) S S' f →
    (n < 64 → f = none ∧ S'.ms.length = n + 1 ∧ ∀ j, j < k → S'.ms[j]? = S.ms[j]?) ∧ (64 ≤ n → f = some ((pM 63, nM 64), 101))
  | 0, k, S, S', f, e, hk, hl, hnum, htgt, h => by
    obtain ⟨m, v, hp, hr, hlop⟩ := vis_inv h
    rw [getM (by omega) (by omega), if_neg (by omega), mrE, rqE] at hr
    obtain ⟨e1, e2⟩ := lop_done hlop (m := m) (by simp) (by rw [hr]; simp)
    refine ⟨fun _ => ⟨e2, by rw [e1]; simp; omega, fun j hj => by rw [e1]; exact List.getElem?_append_left (by omega)⟩, fun h => by omega⟩
  | d + 1, k, S, S', f, e, hk, hl, hnum, htgt, h => by
    obtain ⟨m, v, hp, hr, hlop⟩ := vis_inv h
    rw [getM (by omega) (by omega), if_pos (by omega), mrM (by omega), rqM] at hr
    have nn : ∀ j, k + 1 ≤ j → j ≤ n → upd S.num (pM k) ((S.ms.length : Nat) : Int) (pM j) = none := fun j h1 h2 => by
      unfold upd
      rw [if_neg (fun q => by have := pM_inj (by omega) (by omega) q; omega)]
      exact hnum j (by omega) h2
    obtain ⟨n1, S1, f1, hf, hgo, hbad⟩ := lop_any hlop (m := m) (q := ⟨nM (k + 1), false, 0, 0⟩) (by simp) (by rw [hr]; rfl) (htgt k _ (Nat.le_refl _) (by omega)) (jnM k (by omega)).2
    simp only at hf
    rw [(jnM k (by omega)).1] at hf
    have hpr := prbM (n := n) (i := k + 1) (by omega) (by omega)
    by_cases h64 : k + 1 = 64
    · have := fol_many hf hpr (nn (k + 1) (Nat.le_refl _) (by omega)) (by simp; omega)
      have e63 : k = 63 := by omega
      subst e63
      exact ⟨fun h => by omega, fun _ => hbad _ this⟩
    · have hv := fol_new hf hpr (nn (k + 1) (Nat.le_refl _) (by omega)) (by simp; omega)
      have ih := chain hn d (k + 1) ⟨S.ms ++ [m], v, upd S.num (pM k) ((S.ms.length : Nat) : Int), S.tgt⟩ S1 f1 (by omega) (by omega) (by simp; omega) nn (fun j t h1 h2 => htgt j t (by omega) h2) hv
      refine ⟨fun h => ?_, fun h => hbad _ (ih.2 h)⟩
      obtain ⟨e1, e2, e3⟩ := ih.1 h
      have hk1 : S1.ms[S.ms.length]? = some m := by rw [e3 _ (by omega)]; simp
      obtain ⟨e4, e5⟩ := lop_done (hgo e1) (setT_get (S := { S1 with tgt := upd S1.tgt (pM k, nM (k + 1)) n1 }) hk1) (by simp [hr])
      refine ⟨e5, by rw [e4, setT_len]; exact e2, fun j hj => ?_⟩
      rw [e4]
      unfold setT
      simp only [List.getElem?_modify]
      rw [e3 j (by omega)]
      have ne : S.ms.length ≠ j := by omega
      have e6 : (S.ms ++ [m])[j]? = S.ms[j]? := List.getElem?_append_left (by omega)
      simp only
      rw [e6]
      cases S.ms[j]? <;> simp [ne]
theorem loadM {r : Qn} {n : Nat} (hn : n < 71) {c : Int} {S : Sx} {f : Option Ft} (h : Fol (chF n) MRM r (pM 0) 0 S0 c S f) : (n < 64 → f = none ∧ S.ms.length = n + 1) ∧ (64 ≤ n → f = some ((pM 63, nM 64), 101)) := by
  have hv := fol_new h (prbM (by omega) (Nat.zero_le _)) rfl (by simp)
  have := chain hn n 0 S0 S f (by omega) (by omega) rfl (fun _ _ _ => rfl) (fun _ _ _ _ => rfl) hv
  exact ⟨fun h => ⟨(this.1 h).1, (this.1 h).2.1⟩, this.2⟩
end Go.Proofs.YtfehmdfamndcaaaGreatDoor
