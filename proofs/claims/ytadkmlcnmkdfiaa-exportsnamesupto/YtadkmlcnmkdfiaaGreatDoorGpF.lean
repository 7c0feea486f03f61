/- Own text. The program's Entries at the statements' one tree. What the statements of this stage begin with: a module with an own export and stars. -/
import Derived.Test.YtadkmlcnmkdfiaaGreatDoorGpC
import Derived.Test.YtadkmlcnmkdfiaaGreatDoorGpE
import Derived.Test.YtadkmlcnmkdfiaaGreatDoorF13
namespace Go.Proofs.YtadkmlcnmkdfiaaGreatDoor
open Go.RowKit Xp
set_option linter.unusedVariables false
set_option linter.unusedSimpArgs false

def e0 : En := ⟨⟨#[98]⟩, ⟨#[97]⟩, 7, false, 0⟩
def e1 : En := ⟨⟨#[99]⟩, ⟨#[97]⟩, 7, false, 1⟩
def e2 : En := ⟨dflt, dflt, -1, false, 2⟩
theorem src_form : formP srcN = 5 := by decide +kernel
theorem src_tx : srcN.tx := by
  intro y hy
  have : srcN.flat = srcN.flat := rfl
  simp [srcN, impN, expN, dftN, Nd.flat_eq, flats_cons, flats_nil, Nd.ks] at hy
  rcases hy with rfl | rfl | rfl | rfl | rfl | rfl | rfl | rfl | rfl <;> decide
theorem src_size : srcN.size ≤ 4194304 := by simp [srcN, impN, expN, dftN, Nd.size_eq, sizes_cons, sizes_nil, Nd.ks]
theorem res_es {fn : Func} {p : Nat} (h : fn.results = #[.cell p 32]) {W : World} {n : Nat} {a b c d : Value} {t : TypeId} {tmps : Array Value} (hb : W.heap[n]? = some (.cells #[a, b, c, d] t (0, 0))) (ht : tmps[p]?.getD undef = .pointer (some ⟨n, 0, none⟩)) :
    (results fn tmps).run Tryz.prog W = .ok (.agg #[a, b, c, d]) W := by
  obtain ⟨⟨c0, c1, c2, c3⟩, _⟩ := t4 hb
  simp [results, h, go_sem, ht, c0, c1, c2, c3]
/-- three trees in a list, as they are read. -/
theorem lat3 {X : World} {S : Nat → Prop} {v : Value} {x y z : Nd} (h : LAt X S v [x, y, z]) : ∃ bl o c vx vy vz, v = .slice (some ⟨bl, o, none⟩) 3 c ∧ S bl ∧ bl < X.heap.size ∧ Four X bl o x vx ∧ Four X bl (o + 4) y vy ∧ Four X bl (o + 8) z vz ∧ LAt X S vx x.ks ∧ LAt X S vy y.ks ∧ LAt X S vz z.ks := by
  obtain ⟨a, c, bl, o, f, e, h1, h2, h3⟩ := h.op
  obtain ⟨rfl, hS, hb⟩ := h1 (by simp)
  exact ⟨bl, o, c, f 0, f 1, f 2, e, hS, hb, by simpa using h2 0 (by simp), by simpa using h2 1 (by simp), by simpa using h2 2 (by simp), by simpa using h3 0 (by simp), by simpa using h3 1 (by simp), by simpa using h3 2 (by simp)⟩
abbrev tg0 : Int → Option Int := upd (fun _ => none) 0 7
abbrev im0 : ByteArray → Option Int := fun _ => none
abbrev im1 : ByteArray → Option Int := upd im0 ⟨#[98]⟩ 0
abbrev zEs : Obj := .cells #[.slice none 0 0, .slice none 0 0, .slice none 0 0, .slice none 0 0] 32
abbrev rqO : Obj := .cells #[.string ⟨#[46, 47, 109]⟩, .bool false, .int .i64 0, .int .i64 7] 35
set_option maxRecDepth 100000 in
set_option maxHeartbeats 16000000 in
theorem entries_src {W : World} (he : WEnv W) {v : Value} {q cp : Nat} (hx : LAt W (fun j => j < W.heap.size) v srcN.ks) (hq : W.heap[q]? = some rqO) :
    Calls Tryz.prog 12 #[srcN.v v, .slice (some ⟨q, 0, none⟩) 1 cp] W fun e w' => ∃ g0 c0 g1 c1 g2 c2, e = .returned (.agg #[.slice (some ⟨g0, 0, none⟩) 1 c0, .slice (some ⟨g1, 0, none⟩) 1 c1, .slice (some ⟨g2, 0, none⟩) 1 c2, .slice none 0 0]) ∧ w'.cell? ⟨g1, 0, none⟩ = some (.string dflt) ∧ (w'.cell? ⟨g2, 0, none⟩ = some (.string ⟨#[99]⟩) ∧ w'.cell? ⟨g2, 1, none⟩ = some (.string ⟨#[97]⟩) ∧ w'.cell? ⟨g2, 2, none⟩ = some (.int .i64 7) ∧ w'.cell? ⟨g2, 3, none⟩ = some (.bool false) ∧ w'.cell? ⟨g2, 4, none⟩ = some (.int .i64 1)) ∧ g1 < w'.heap.size ∧ g2 < w'.heap.size ∧ Below W.heap.size W w' := by
  obtain ⟨va, vc, rfl⟩ := hx.sl
  replace hx : LAt W (fun j => j < W.heap.size) (.slice va 3 vc) [impN, expN, dftN] := hx
  show Calls Tryz.prog 12 #[.agg #[.int .i64 68, .string ⟨#[]⟩, .int .i64 0, .slice va 3 vc], .slice (some ⟨q, 0, none⟩) 1 cp] W _
  obtain ⟨wA, hwA⟩ : ∃ Z, (W.alloc (.cells #[.int .i64 68, .string ⟨#[]⟩, .int .i64 0, .slice va 3 vc] 25)).alloc zEs = Z := ⟨_, rfl⟩
  have bA : Below W.heap.size W wA := by rw [← hwA]; exact (bel_a _ _).alloc (by simp) _
  have m0 : wA.heap[W.heap.size]? = some (.cells #[.int .i64 68, .string ⟨#[]⟩, .int .i64 0, .slice va 3 vc] 25 (0, 0)) := by rw [← hwA]; exact hold _ (by simp) (hnew _ rfl)
  have m1 : wA.heap[W.heap.size + 1]? = some zEs := by rw [← hwA]; exact hnew _ (by simp)
  have l1 := (Array.getElem?_eq_some_iff.1 m1).1
  have ql := (Array.getElem?_eq_some_iff.1 hq).1
  have CF := form_any srcN wA _ _ (hx.bel bA) src_size src_tx (he.bel bA)
  rw [src_form] at CF
  simp only [Nd.v, srcN, Nd.k, Nd.t, Nd.n] at CF
  -- the reader's base
  have HB : Hid (∀ Z, Below wA.heap.size wA Z → Below W.heap.size W Z ∧ W.heap.size + 1 < Z.heap.size ∧ Z.heap[W.heap.size]? = some (.cells #[.int .i64 68, .string ⟨#[]⟩, .int .i64 0, .slice va 3 vc] 25 (0, 0)) ∧ Z.heap[W.heap.size + 1]? = some zEs ∧ Z.heap[q]? = some rqO ∧ LAt Z (fun j => j < Z.heap.size) (.slice va 3 vc) [impN, expN, dftN]) := fun Z b => by
    have bZ := bA.trans (b.mono bA.size)
    have := b.size
    refine ⟨bZ, by omega, (b.block _ (by omega)).trans m0, (b.block _ l1).trans m1, (bZ.block _ ql).trans hq, ?_⟩
    exact (hx.keep bZ.size (fun j hj _ => bZ.block j hj)).mono (fun j hj => by have h1 : j < W.heap.size := hj; have := bZ.size; show j < Z.heap.size; omega)
  obtain ⟨⟨_, _, _, _⟩, _⟩ := t4 m0
  clear hx hq m0 m1 he bA
  go_enter Tryz.func12, Tryz.ntmps12
  go_wp2_with fail
  go_at_call 23
  refine CF.mono ?_
  rintro e W1 ⟨rfl, b1⟩
  obtain ⟨BW1, s1, n1, z1, q1, lat1'⟩ := HB.out W1 b1
  go_wp2_with fail
  go_at_call 24
  refine (newReader_one q1).mono ?_
  rintro e W2 ⟨rb, mT, mI, rfl, R0⟩
  obtain ⟨bl, o, c, vx, vy, vz, hvv, hSb, hbl, F0, F1, F2, LX, LY, LZ⟩ := lat3 lat1'
  simp only [Value.slice.injEq] at hvv
  obtain ⟨rfl, _, rfl⟩ := hvv
  have hbW : bl < W1.heap.size := hbl
  obtain ⟨xa, xc, rfl⟩ := LX.sl
  obtain ⟨ya, yc, rfl⟩ := LY.sl
  obtain ⟨za, zc, rfl⟩ := LZ.sl
  simp only [Four, impN, expN, dftN, Nd.k, Nd.t, Nd.n, Nd.ks, List.length_cons, List.length_nil, Nat.zero_add] at F0 F1 F2 LX LY LZ
  have HC : Hid (∀ Z, Below W1.heap.size W1 Z → (Z.cell? ⟨bl, o, none⟩ = some (.int .i64 60) ∧ Z.cell? ⟨bl, o + 1, none⟩ = some (.string ⟨#[46, 47, 109]⟩) ∧ Z.cell? ⟨bl, o + 2, none⟩ = some (.int .i64 0) ∧ Z.cell? ⟨bl, o + 3, none⟩ = some (.slice xa 1 xc)) ∧ (Z.cell? ⟨bl, o + 4, none⟩ = some (.int .i64 64) ∧ Z.cell? ⟨bl, o + 4 + 1, none⟩ = some (.string ⟨#[]⟩) ∧ Z.cell? ⟨bl, o + 4 + 2, none⟩ = some (.int .i64 0) ∧ Z.cell? ⟨bl, o + 4 + 3, none⟩ = some (.slice ya 1 yc)) ∧ (Z.cell? ⟨bl, o + 8, none⟩ = some (.int .i64 63) ∧ Z.cell? ⟨bl, o + 8 + 1, none⟩ = some (.string ⟨#[]⟩) ∧ Z.cell? ⟨bl, o + 8 + 2, none⟩ = some (.int .i64 0) ∧ Z.cell? ⟨bl, o + 8 + 3, none⟩ = some (.slice za 1 zc)) ∧ Z.cell? ⟨W.heap.size, 3, none⟩ = some (.slice (some ⟨bl, o, none⟩) 3 vc)) := fun Z b => by
    have cA := fun j => (World.cell?_of_block (a := ⟨bl, j, none⟩) (b.block bl hbW))
    have nZ := (b.block W.heap.size (by omega)).trans n1
    exact ⟨⟨(cA _).trans F0.1, (cA _).trans F0.2.1, (cA _).trans F0.2.2.1, (cA _).trans F0.2.2.2⟩, ⟨(cA _).trans F1.1, (cA _).trans F1.2.1, (cA _).trans F1.2.2.1, (cA _).trans F1.2.2.2⟩, ⟨(cA _).trans F2.1, (cA _).trans F2.2.1, (cA _).trans F2.2.2.1, (cA _).trans F2.2.2.2⟩, (t4 nZ).1.2.2.2⟩
  have HLX : Hid _ := LX
  have HLY : Hid _ := LY
  have HLZ : Hid _ := LZ
  have HZ : Hid (W1.heap[W.heap.size + 1]? = some zEs) := z1
  have HS : Hid (W.heap.size + 1 < W1.heap.size) := s1
  have HW1 : Hid _ := BW1
  have HR0 : Hid _ := R0
  obtain ⟨_, _, _, _⟩ := HC.out W2 R0.bel
  clear F0 F1 F2 LX LY LZ z1 s1 BW1 n1 q1 lat1' CF hSb hbl hbW R0
  go_wp2
  go_loopw [19] (fun v19 wr => (v19 = .int .i64 0 ∧ Rst W1 wr rb mT mI tg0 im0 [] [] [] []) ∨ ((v19 = .int .i64 1 ∨ v19 = .int .i64 2 ∨ v19 = .int .i64 3) ∧ Rst W1 wr rb mT mI tg0 im1 [e0] [] [] [])) (fun v19 _ => 3 - (intOf v19).toNat)
  case atStart => exact Or.inl ⟨rfl, HR0.out⟩
  case round =>
    rcases hrel with ⟨rfl, hR⟩ | ⟨hk, hR⟩
    · obtain ⟨⟨_, _, _, _⟩, _, _, _⟩ := HC.out _ hR.bel
      go_wp2_with fail
      go_at_call 25
      refine (readImport_one (hR.then (bel_a _ _)) HLX.out rfl rfl (by decide) (by decide)).mono ?_
      rintro e Z ⟨rfl, hZ⟩
      go_wp2
      go_roundw
      case rel => exact Or.inr ⟨Or.inl (by simp), hZ⟩
      case measure => simp [intOf]
    · rcases hk with rfl | rfl | rfl
      · obtain ⟨_, ⟨_, _, _, _⟩, _, _⟩ := HC.out _ hR.bel
        go_wp2_with fail
        go_at_call 25
        refine (readImport_no (hR.then (bel_a _ _)) (Or.inl rfl) _ _ ⟨_, _, _, rfl⟩ _).mono ?_
        rintro e Z ⟨rfl, hZ⟩
        go_wp2
        go_roundw
        case rel => exact Or.inr ⟨Or.inr (Or.inl (by simp)), hZ⟩
        case measure => simp [intOf]
      · obtain ⟨_, _, ⟨_, _, _, _⟩, _⟩ := HC.out _ hR.bel
        go_wp2_with fail
        go_at_call 25
        refine (readImport_no (hR.then (bel_a _ _)) (Or.inr rfl) _ _ ⟨_, _, _, rfl⟩ _).mono ?_
        rintro e Z ⟨rfl, hZ⟩
        go_wp2
        go_roundw
        case rel => exact Or.inr ⟨Or.inr (Or.inr (by simp)), hZ⟩
        case measure => simp [intOf]
      · obtain ⟨_, _, _, _⟩ := HC.out _ hR.bel
        obtain ⟨Wf, hWf⟩ : ∃ Z : World, Z = wr := ⟨_, rfl⟩
        subst hWf
        have HRf : Hid _ := hR
        go_wp2
        go_loopw [32] (fun v32 wr => ((v32 = .int .i64 0 ∨ v32 = .int .i64 1) ∧ Rst W1 wr rb mT mI tg0 im1 [e0] [] [] []) ∨ (v32 = .int .i64 2 ∧ Rst W1 wr rb mT mI tg0 im1 [e0] [] [e1] []) ∨ (v32 = .int .i64 3 ∧ Rst W1 wr rb mT mI tg0 im1 [e0] [e2] [e1] [])) (fun v32 _ => 3 - (intOf v32).toNat)
        case atStart => exact Or.inl ⟨Or.inl rfl, HRf.out⟩
        case round =>
          rcases hrel with ⟨rfl | rfl, hR⟩ | ⟨rfl, hR⟩ | ⟨rfl, hR⟩
          · obtain ⟨⟨_, _, _, _⟩, _, _, _⟩ := HC.out _ hR.bel
            go_wp2_with fail
            go_at_call 26
            refine (readExport_no (hR.then (bel_a _ _)) _ _ ⟨_, _, _, rfl⟩ _).mono ?_
            rintro e Z ⟨rfl, hZ⟩
            go_wp2
            go_roundw
            case rel => exact Or.inl ⟨Or.inr (by simp), hZ⟩
            case measure => simp [intOf]
          · obtain ⟨_, ⟨_, _, _, _⟩, _, _⟩ := HC.out _ hR.bel
            go_wp2_with fail
            go_at_call 26
            refine (readExport_here (hR.then (bel_a _ _)) HLY.out rfl rfl (by decide) (by decide)).mono ?_
            rintro e Z ⟨rfl, hZ⟩
            go_wp2
            go_roundw
            case rel => exact Or.inr (Or.inl ⟨by simp, hZ⟩)
            case measure => simp [intOf]
          · obtain ⟨_, _, ⟨_, _, _, _⟩, _⟩ := HC.out _ hR.bel
            go_wp2_with fail
            go_at_call 26
            refine (readExport_dft (hR.then (bel_a _ _)) HLZ.out).mono ?_
            rintro e Z ⟨rfl, hZ⟩
            go_wp2
            go_roundw
            case rel => exact Or.inr (Or.inr ⟨by simp, hZ⟩)
            case measure => simp [intOf]
          · obtain ⟨v0, v1, v2, v3, hb, r0, r1, r2, r3⟩ := hR.ex
            obtain ⟨g0, p0, rfl, _⟩ := rw_one r0
            obtain ⟨g1, p1, rfl, gl1, a0, _⟩ := rw_one r1
            obtain ⟨g2, p2, rfl, gl2, d0, d1, d2, d3, d4⟩ := rw_one r2
            obtain rfl := r3.nil rfl
            obtain ⟨⟨_, _, _, _, _, _⟩, _⟩ := t6 hb
            have hs := HS.out
            have lo := hR.lo
            have rZ := (hR.bel.block (W.heap.size + 1) (by omega)).trans HZ.out
            obtain ⟨⟨_, _, _, _⟩, _, _, _, _⟩ := t4 rZ
            have HE : Hid (Below W.heap.size W wr) := HW1.out.trans (hR.bel.mono HW1.out.size)
            have HRZ : Hid _ := rZ
            have lo1 : g1 ≠ W.heap.size + 1 := fun e => by have := (World.ownsRow.lt r1.row g1 rfl).1; omega
            have lo2 : g2 ≠ W.heap.size + 1 := fun e => by have := (World.ownsRow.lt r2.row g2 rfl).1; omega
            have HG : Hid (wr.cell? ⟨g1, 0, none⟩ = some (.string dflt) ∧ (wr.cell? ⟨g2, 0, none⟩ = some (.string ⟨#[99]⟩) ∧ wr.cell? ⟨g2, 1, none⟩ = some (.string ⟨#[97]⟩) ∧ wr.cell? ⟨g2, 2, none⟩ = some (.int .i64 7) ∧ wr.cell? ⟨g2, 3, none⟩ = some (.bool false) ∧ wr.cell? ⟨g2, 4, none⟩ = some (.int .i64 1)) ∧ g1 < wr.heap.size ∧ g2 < wr.heap.size) := ⟨a0, ⟨d0, d1, d2, d3, d4⟩, gl1, gl2⟩
            clear hR r0 r1 r2 r3 a0 d0 d1 d2 d3 d4 gl1 gl2 hb rZ
            go_wp2
            refine bodyPost_ret (res_es Tryz.results12 (t4_set _ _ _ _ HRZ.out) rfl) rfl ?_
            have kc : ∀ (g i : Nat) (p q r s : Value), g ≠ W.heap.size + 1 → ((((wr.setCell ⟨W.heap.size + 1, 0, none⟩ p).setCell ⟨W.heap.size + 1, 1, none⟩ q).setCell ⟨W.heap.size + 1, 2, none⟩ r).setCell ⟨W.heap.size + 1, 3, none⟩ s).cell? ⟨g, i, none⟩ = wr.cell? ⟨g, i, none⟩ := fun g i p q r s hg => World.cell?_of_block (a := ⟨g, i, none⟩) (((((Below.heap_setCell _ _ _ _ hg).trans (Below.heap_setCell _ _ _ _ hg)).trans (Below.heap_setCell _ _ _ _ hg)).trans (Below.heap_setCell _ _ _ _ hg)))
            obtain ⟨y1, ⟨y2, y3, y4, y5, y6⟩, y7, y8⟩ := HG.out
            refine ⟨g0, p0, g1, p1, g2, p2, rfl, (kc _ _ _ _ _ _ lo1).trans y1, ⟨(kc _ _ _ _ _ _ lo2).trans y2, (kc _ _ _ _ _ _ lo2).trans y3, (kc _ _ _ _ _ _ lo2).trans y4, (kc _ _ _ _ _ _ lo2).trans y5, (kc _ _ _ _ _ _ lo2).trans y6⟩, by simpa [World.setCell] using y7, by simpa [World.setCell] using y8, bel4 HE.out (by omega) _ _ _ _⟩
end Go.Proofs.YtadkmlcnmkdfiaaGreatDoor
namespace Go.Proofs.YtadkmlcnmkdfiaaGreatDoor
open Go.RowKit Xp
set_option linter.unusedVariables false
set_option linter.unusedSimpArgs false

theorem enat_of_row {w : World} {base : Nat} {v : Value} {l : List En} (h : w.ownsRow base 49 5 v l.length (l.flatMap En.cs)) : EnAt w w.heap.size v l := by
  rcases h.2 with ⟨rfl, h0⟩ | ⟨g, cap, cur, rfl, hb, hg, hn, hrest⟩
  · obtain rfl : l = [] := List.length_eq_zero_iff.1 h0
    exact ⟨⟨_, _, rfl⟩, fun h => by simp at h, fun ad n c e => by cases e; omega⟩
  · refine ⟨⟨_, _, by rw [List.length_map]⟩, fun _ => ⟨g, 0, cap, by rw [List.length_map], (Array.getElem?_eq_some_iff.1 hg).1, fun i hi j u hu => ?_⟩, fun ad n c e => by cases e; exact hn⟩
    have hi' : i < l.length := by simpa using hi
    have e1 : (l.map En.cs)[i] = l[i].cs := by simp
    rw [e1] at hu
    have hj : j < 5 := by have := (List.getElem?_eq_some_iff.1 hu).1; simpa [En.cs] using this
    have hc := World.ownsRow.cellAt h (i * 5 + j) (by omega)
    rw [Nat.zero_add, hc]
    have e : l = l.take i ++ l[i] :: l.drop (i + 1) := by simp
    have hlen : ∀ m : List En, (m.flatMap En.cs).length = m.length * 5 := fun m => by
      induction m with
      | nil => rfl
      | cons a m ih => rw [List.flatMap_cons, List.length_append, ih]; simp [En.cs]; omega
    have l1 : (l.take i).length = i := by simp; omega
    have e2 : l.flatMap En.cs = (l.take i).flatMap En.cs ++ (l[i].cs ++ (l.drop (i + 1)).flatMap En.cs) := (congrArg (List.flatMap En.cs) e).trans (by simp only [List.flatMap_append, List.flatMap_cons])
    rw [e2, List.getElem?_append_right (by rw [hlen, l1]; omega), hlen, l1, show i * 5 + j - i * 5 = j by omega, List.getElem?_append_left (by simpa [En.cs] using hj)]
    exact hu
def oneE (own : ByteArray) (l : List Int) : Es := ⟨[], if own.size = 0 then [] else [⟨own, own, -1, false, 0⟩], [], l.map fun m => ⟨⟨#[]⟩, ⟨#[]⟩, m, false, 0⟩⟩
abbrev esO (v1 v3 : Value) : Obj := .cells #[.slice none 0 0, v1, .slice none 0 0, v3] 32
def stE (m : Int) : En := ⟨⟨#[]⟩, ⟨#[]⟩, m, false, 0⟩
/-- a module that is being made. -/
structure One (W wr : World) (v1 v3 : Value) (l1 l3 : List En) : Prop where
  b : Below W.heap.size W wr
  m4 : wr.heap[W.heap.size]? = some zEs
  m5 : wr.heap[W.heap.size + 1]? = some (esO v1 v3)
  r1 : wr.ownsRow (W.heap.size + 2) 49 5 v1 l1.length (l1.flatMap En.cs)
  r3 : wr.ownsRow (W.heap.size + 3) 49 5 v3 l3.length (l3.flatMap En.cs)
  n1 : ∀ j, v1.ownBlock = some j → j = W.heap.size + 2
theorem One.step {W wr X : World} {v1 v3 : Value} {l1 l3 : List En} {m : Int} {gg cap : Nat} (h : One W wr v1 v3 l1 l3) (g : ((wr.drew).alloc (enO (stE m))).grownBy X v3.ownBlock) (ho : X.ownsRow (W.heap.size + 3) 49 5 (.slice (some ⟨gg, 0, none⟩) (l3.length + 1) cap) (l3.length + 1) (l3.flatMap En.cs ++ (stE m).cs)) :
    ((∃ u, X.cell? ⟨W.heap.size + 1, 3, none⟩ = some u) ∧ X.frozen? ⟨W.heap.size + 1, 3, none⟩ = false) ∧ One W (X.setCell ⟨W.heap.size + 1, 3, none⟩ (.slice (some ⟨gg, 0, none⟩) (l3.length + 1) cap)) v1 (.slice (some ⟨gg, 0, none⟩) (l3.length + 1) cap) l1 (l3 ++ [stE m]) := by
  have lo := fun j hj => (World.ownsRow.lt h.r3 j hj).1
  have l5 := (Array.getElem?_eq_some_iff.1 h.m5).1
  have kp : ∀ j, j < wr.heap.size → j < W.heap.size + 3 → X.heap[j]? = wr.heap[j]? := fun j hj h3 => (g.block j (by simp; omega) (fun e => by have := lo j e.symm; omega)).trans (Below.heap_alloc wr.drew _ j hj)
  have hs : wr.heap.size ≤ X.heap.size := by have := g.size; simp at this; omega
  have m5X := (kp _ l5 (by omega)).trans h.m5
  obtain ⟨⟨_, _, _, c3⟩, _, _, _, f3⟩ := t4 m5X
  refine ⟨⟨⟨_, c3⟩, f3⟩, ⟨?_, ?_, t4_set3 _ m5X, ?_, ?_, h.n1⟩⟩
  · exact (h.b.trans ⟨g.os, g.tape, g.output, hs, fun k hk => kp k (by omega) (by omega)⟩).setCell (by show W.heap.size ≤ W.heap.size + 1; omega) _
  · exact (Below.heap_setCell _ _ _ _ (by show W.heap.size ≠ W.heap.size + 1; omega)).trans ((kp _ (by omega) (by omega)).trans h.m4)
  · exact row_keep h.r1 fun j hj => by
      have e := h.n1 j hj
      have hl := (World.ownsRow.lt h.r1 j hj).2
      exact (Below.heap_setCell _ _ _ _ (by show j ≠ W.heap.size + 1; omega)).trans (kp j hl (by omega))
  · have e1 : (l3 ++ [stE m]).length = l3.length + 1 := by simp
    rw [e1, List.flatMap_append, show [stE m].flatMap En.cs = (stE m).cs by simp]
    exact row_keep ho fun j hj => Below.heap_setCell _ _ _ _ (by have := (World.ownsRow.lt ho j hj).1; show j ≠ W.heap.size + 1; omega)
set_option maxRecDepth 100000 in
set_option maxHeartbeats 16000000 in
theorem one_any (W : World) (own : ByteArray) (l : List Int) (sv : Value) (hl : l.length ≤ 1024) (hsv : (l = [] ∧ sv = .slice none 0 0) ∨ ∃ q c, sv = .slice (some ⟨q, 0, none⟩) l.length c ∧ q < W.heap.size ∧ ∀ i (h : i < l.length), W.cell? ⟨q, i, none⟩ = some (.int .i64 l[i])) :
    Calls Tryz.prog 22 #[.string own, sv] W fun e w' => ∃ v1 v3, e = .returned (.agg #[.slice none 0 0, v1, .slice none 0 0, v3]) ∧ EnAt w' w'.heap.size v1 (oneE own l).own ∧ EnAt w' w'.heap.size v3 (oneE own l).st ∧ Below W.heap.size W w' := by
  obtain ⟨i0, hi0, hz0, hz1, hz2⟩ := info_parts info_en
  obtain ⟨sa, sc, rfl⟩ : ∃ a c, sv = .slice a l.length c := by
    rcases hsv with ⟨rfl, rfl⟩ | ⟨q, c, rfl, _⟩
    · exact ⟨none, 0, rfl⟩
    · exact ⟨_, _, rfl⟩
  have HSV : Hid (∀ X, Below W.heap.size W X → ∀ i (h : i < l.length), ∃ q, sa = some ⟨q, 0, none⟩ ∧ X.cell? ⟨q, i, none⟩ = some (.int .i64 l[i])) := fun X bX i hi => by
    rcases hsv with ⟨rfl, _⟩ | ⟨q, c, e, hq, hc⟩
    · simp at hi
    · simp only [Value.slice.injEq] at e
      exact ⟨q, e.1, (World.cell?_of_block (a := ⟨q, i, none⟩) (bX.block q hq)).trans (hc i hi)⟩
  obtain ⟨wA, hwA⟩ : ∃ Z, (W.alloc zEs).alloc zEs = Z := ⟨_, rfl⟩
  have bA : Below W.heap.size W wA := by rw [← hwA]; exact ((Below.refl _ _).alloc (Nat.le_refl _) _).alloc (by simp) _
  have sA : wA.heap.size = W.heap.size + 2 := by rw [← hwA]; simp
  have m4 : wA.heap[W.heap.size]? = some zEs := by rw [← hwA, Below.heap_alloc _ _ _ (by simp)]; exact hnewX _ rfl
  have m5 : wA.heap[W.heap.size + 1]? = some zEs := by rw [← hwA]; exact hnewX _ (by simp)
  by_cases h0 : own.size = 0
  · have hown : own = ⟨#[]⟩ := by
      cases own with
      | mk a => have : a.size = 0 := h0; rw [Array.eq_empty_of_size_eq_zero this]
    subst hown
    have HX : Hid (One W wA (.slice none 0 0) (.slice none 0 0) [] []) := ⟨bA, m4, m5, World.ownsRow_nil _ _ _ _, World.ownsRow_nil _ _ _ _, fun j hj => by cases hj⟩
    obtain ⟨⟨_, _, _, _⟩, _, _, _, _⟩ := t4 m5
    clear m4 m5 bA sA hsv
    subst hwA
    go_enter Tryz.func22, Tryz.ntmps22
    go_wp2
    go_loopw [6] (fun v6 wr => ∃ (k : Nat) (v1 v3 : Value), v6 = .int .i64 (k : Nat) ∧ k ≤ l.length ∧ One W wr v1 v3 ([] : List En) ((l.take k).map stE)) (fun v6 _ => l.length - (intOf v6).toNat)
    case atStart => exact ⟨0, _, _, rfl, by omega, HX.out⟩
    case round =>
      obtain ⟨k, v1, v3, rfl, hk, hS⟩ := hrel
      have HS : Hid _ := hS
      obtain ⟨⟨_, _, _, _⟩, _, _, _, _⟩ := t4 hS.m5
      have l5 := (Array.getElem?_eq_some_iff.1 hS.m5).1
      by_cases hlt : k < l.length
      · obtain ⟨q, rfl, hcq⟩ := HSV.out _ hS.b k hlt
        have hltI : ((k : Nat) : Int) < ((l.length : Nat) : Int) := by omega
        have HT : Hid ((l.take (k + 1)).map stE = (l.take k).map stE ++ [stE l[k]]) := by show _ = _; rw [List.take_succ_eq_append_getElem hlt]; simp only [List.map_append, List.map_cons, List.map_nil]
        have hll : ((l.take k).map stE).length ≤ 1024 := by simp; omega
        have r3 := hS.r3
        generalize (l.take k).map stE = L3 at *
        obtain ⟨a3, c3, rfl⟩ : ∃ a c, v3 = .slice a L3.length c := by
          rcases r3.2 with ⟨rfl, h0⟩ | ⟨g, cap, cur, rfl, _⟩
          · exact ⟨none, 0, by rw [h0]⟩
          · exact ⟨_, _, rfl⟩
        have zA := Below.heap_alloc wr (enO (stE l[k]))
        have m5A := (zA _ l5).trans hS.m5
        have hql : q < wr.heap.size := World.block_lt_of_cell? wr _ hcq
        have hcA := (World.cell?_of_block (a := ⟨q, k, none⟩) (zA q hql)).trans hcq
        obtain ⟨⟨_, _, _, _⟩, _, _, _, _⟩ := t4 m5A
        have T3 : Hid (((wr.drew).alloc (enO (stE l[k]))).ownsRow (W.heap.size + 3) 49 5 (.slice a3 L3.length c3) L3.length (L3.flatMap En.cs)) := World.ownsRow.alloc (w := wr.drew) r3 _
        clear hS r3 m5A zA
        simp only [stE] at hcq hcA
        generalize l[k] = mk at *
        go_wp2_with fail
        go_region_law (refine step_append_lies _ (by rfl) _ _ _ (by rfl) (W.heap.size + 3) 49 i0 _ 5 56 under_ens hi0 hz0 hz1 hz2 rfl (by omega) _ L3.length (L3.flatMap En.cs) (by rfl) T3.out ⟨wr.heap.size, 0, none⟩ 1 1 (stE mk).cs (by rfl) (by rfl) (World.news_of_block (cs := #[.string ⟨#[]⟩, .string ⟨#[]⟩, .int .i64 mk, .bool false, .int .i64 0]) (t := 49) (fr := (0, 0)) (hnewX _ (by simp))) (by simp [Value.oneCell', En.cs, stE]) (by omega) (by unfold maxLen; omega) (by omega) (by simp; omega) (wr.heap.size + 1) (by simp) ?_; intro gg cap W3 hown hgrow hat hlt3; obtain ⟨⟨⟨u3, _⟩, _⟩, hS3⟩ := HS.out.step hgrow hown)
        all_goals
          go_wp2
          go_roundw
          case rel => exact ⟨k + 1, _, _, by simp, by omega, by rw [HT.out]; first | exact hS3 | exact hS3.drew⟩
          case measure => simp [intOf]; omega
      · obtain rfl : k = l.length := by omega
        have hge : ¬ ((l.length : Nat) : Int) < ((l.length : Nat) : Int) := by omega
        obtain ⟨⟨_, _, _, _⟩, _, _, _, _⟩ := t4 hS.m4
        have HM4 : Hid _ := hS.m4
        have HE1 : Hid _ := enat_of_row hS.r1
        have HE3 : Hid _ := enat_of_row hS.r3
        have HBw : Hid _ := hS.b
        have HB1 : Hid (∀ j, j < wr.heap.size → j ≠ W.heap.size → ∀ p q r s, ((((wr.setCell ⟨W.heap.size, 0, none⟩ p).setCell ⟨W.heap.size, 1, none⟩ q).setCell ⟨W.heap.size, 2, none⟩ r).setCell ⟨W.heap.size, 3, none⟩ s).heap[j]? = wr.heap[j]?) := fun j _ hj p q r s => ((((Below.heap_setCell _ _ _ _ hj).trans (Below.heap_setCell _ _ _ _ hj)).trans (Below.heap_setCell _ _ _ _ hj)).trans (Below.heap_setCell _ _ _ _ hj))
        have HL1 : Hid (∀ j, v1.ownBlock = some j → j ≠ W.heap.size) := fun j hj => by have := (World.ownsRow.lt hS.r1 j hj).1; omega
        have HR1 : Hid _ := hS.r1
        have HR3 : Hid _ := hS.r3
        obtain ⟨b1, d1, hv1⟩ := row_form hS.r1
        obtain ⟨b3, d3, hv3⟩ := row_form hS.r3
        subst hv1 hv3
        clear hS
        go_wp2
        refine bodyPost_ret (res_es Tryz.results22 (t4_set _ _ _ _ HM4.out) rfl) rfl ?_
        have kp := fun (base : Nat) (v : Value) (n : Nat) (xs : List Value) (hr : wr.ownsRow base 49 5 v n xs) (hb : W.heap.size < base) (p q r s : Value) => row_keep (w' := (((wr.setCell ⟨W.heap.size, 0, none⟩ p).setCell ⟨W.heap.size, 1, none⟩ q).setCell ⟨W.heap.size, 2, none⟩ r).setCell ⟨W.heap.size, 3, none⟩ s) hr (fun j hj => HB1.out j (World.ownsRow.lt hr j hj).2 (by have := (World.ownsRow.lt hr j hj).1; omega) p q r s)
        refine ⟨_, _, rfl, enat_of_row (kp _ _ _ _ HR1.out (by omega) _ _ _ _), ?_, bel4 HBw.out (Nat.le_refl _) _ _ _ _⟩
        have h3 := enat_of_row (kp _ _ _ _ HR3.out (by omega) (.slice none 0 0) (.slice b1 ([] : List En).length d1) (.slice none 0 0) (.slice b3 ((l.take l.length).map stE).length d3))
        rw [List.take_length] at h3
        have e3 : (oneE ⟨#[]⟩ l).st = l.map stE := rfl
        rw [e3]
        simpa using h3
  · have h0' : (own.toList == []) = false := by
      cases hq : own.toList with
      | nil => exact absurd (by have := congrArg List.length hq; rw [ByteArray.toList_eq] at this; simpa using this) h0
      | cons a b => rfl
    have HE0 : Hid ((oneE own l).own = [⟨own, own, -1, false, 0⟩]) := by show _ = _; unfold oneE; simp [h0]
    have HX : Hid (One W (((W.alloc zEs).alloc (esO (.slice (some ⟨W.heap.size + 1 + 1, 0, none⟩) 1 1) (.slice none 0 0))).alloc (enO ⟨own, own, -1, false, 0⟩)) (.slice (some ⟨W.heap.size + 1 + 1, 0, none⟩) 1 1) (.slice none 0 0) [⟨own, own, -1, false, 0⟩] []) := by
      refine ⟨(((Below.refl _ _).alloc (Nat.le_refl _) _).alloc (by simp) _).alloc (by simp; omega) _, ?_, ?_, ?_, World.ownsRow_nil _ _ _ _, fun j hj => by have e : W.heap.size + 1 + 1 = j := (by simpa [Value.ownBlock] using hj); omega⟩
      · rw [Below.heap_alloc _ _ _ (by simp; omega), Below.heap_alloc _ _ _ (by simp)]; exact hnewX _ rfl
      · rw [Below.heap_alloc _ _ _ (by simp)]; exact hnewX _ (by simp)
      · have := World.ownsRow_lit (base := W.heap.size + 2) (e := 49) (size := 5) ((W.alloc zEs).alloc (esO (.slice (some ⟨W.heap.size + 1 + 1, 0, none⟩) 1 1) (.slice none 0 0))) #[.string own, .string own, .int .i64 (-1), .bool false, .int .i64 0] 1 (by simp) (by unfold maxLen; decide) rfl
        rw [show ((W.alloc zEs).alloc (esO (.slice (some ⟨W.heap.size + 1 + 1, 0, none⟩) 1 1) (.slice none 0 0))).heap.size = W.heap.size + 1 + 1 by simp] at this
        simpa [En.cs] using this
    clear m4 m5 bA sA hsv hwA
    go_enter Tryz.func22, Tryz.ntmps22
    go_wp2
    go_loopw [6] (fun v6 wr => ∃ (k : Nat) (v1 v3 : Value), v6 = .int .i64 (k : Nat) ∧ k ≤ l.length ∧ One W wr v1 v3 ([⟨own, own, -1, false, 0⟩] : List En) ((l.take k).map stE)) (fun v6 _ => l.length - (intOf v6).toNat)
    case atStart => exact ⟨0, _, _, rfl, by omega, HX.out⟩
    case round =>
      obtain ⟨k, v1, v3, rfl, hk, hS⟩ := hrel
      have HS : Hid _ := hS
      obtain ⟨⟨_, _, _, _⟩, _, _, _, _⟩ := t4 hS.m5
      have l5 := (Array.getElem?_eq_some_iff.1 hS.m5).1
      by_cases hlt : k < l.length
      · obtain ⟨q, rfl, hcq⟩ := HSV.out _ hS.b k hlt
        have hltI : ((k : Nat) : Int) < ((l.length : Nat) : Int) := by omega
        have HT : Hid ((l.take (k + 1)).map stE = (l.take k).map stE ++ [stE l[k]]) := by show _ = _; rw [List.take_succ_eq_append_getElem hlt]; simp only [List.map_append, List.map_cons, List.map_nil]
        have hll : ((l.take k).map stE).length ≤ 1024 := by simp; omega
        have r3 := hS.r3
        generalize (l.take k).map stE = L3 at *
        obtain ⟨a3, c3, rfl⟩ : ∃ a c, v3 = .slice a L3.length c := by
          rcases r3.2 with ⟨rfl, h0⟩ | ⟨g, cap, cur, rfl, _⟩
          · exact ⟨none, 0, by rw [h0]⟩
          · exact ⟨_, _, rfl⟩
        have zA := Below.heap_alloc wr (enO (stE l[k]))
        have m5A := (zA _ l5).trans hS.m5
        have hql : q < wr.heap.size := World.block_lt_of_cell? wr _ hcq
        have hcA := (World.cell?_of_block (a := ⟨q, k, none⟩) (zA q hql)).trans hcq
        obtain ⟨⟨_, _, _, _⟩, _, _, _, _⟩ := t4 m5A
        have T3 : Hid (((wr.drew).alloc (enO (stE l[k]))).ownsRow (W.heap.size + 3) 49 5 (.slice a3 L3.length c3) L3.length (L3.flatMap En.cs)) := World.ownsRow.alloc (w := wr.drew) r3 _
        clear hS r3 m5A zA
        simp only [stE] at hcq hcA
        generalize l[k] = mk at *
        go_wp2_with fail
        go_region_law (refine step_append_lies _ (by rfl) _ _ _ (by rfl) (W.heap.size + 3) 49 i0 _ 5 56 under_ens hi0 hz0 hz1 hz2 rfl (by omega) _ L3.length (L3.flatMap En.cs) (by rfl) T3.out ⟨wr.heap.size, 0, none⟩ 1 1 (stE mk).cs (by rfl) (by rfl) (World.news_of_block (cs := #[.string ⟨#[]⟩, .string ⟨#[]⟩, .int .i64 mk, .bool false, .int .i64 0]) (t := 49) (fr := (0, 0)) (hnewX _ (by simp))) (by simp [Value.oneCell', En.cs, stE]) (by omega) (by unfold maxLen; omega) (by omega) (by simp; omega) (wr.heap.size + 1) (by simp) ?_; intro gg cap W3 hown hgrow hat hlt3; obtain ⟨⟨⟨u3, _⟩, _⟩, hS3⟩ := HS.out.step hgrow hown)
        all_goals
          go_wp2
          go_roundw
          case rel => exact ⟨k + 1, _, _, by simp, by omega, by rw [HT.out]; first | exact hS3 | exact hS3.drew⟩
          case measure => simp [intOf]; omega
      · obtain rfl : k = l.length := by omega
        have hge : ¬ ((l.length : Nat) : Int) < ((l.length : Nat) : Int) := by omega
        obtain ⟨⟨_, _, _, _⟩, _, _, _, _⟩ := t4 hS.m4
        have HM4 : Hid _ := hS.m4
        have HE1 : Hid _ := enat_of_row hS.r1
        have HE3 : Hid _ := enat_of_row hS.r3
        have HBw : Hid _ := hS.b
        have HB1 : Hid (∀ j, j < wr.heap.size → j ≠ W.heap.size → ∀ p q r s, ((((wr.setCell ⟨W.heap.size, 0, none⟩ p).setCell ⟨W.heap.size, 1, none⟩ q).setCell ⟨W.heap.size, 2, none⟩ r).setCell ⟨W.heap.size, 3, none⟩ s).heap[j]? = wr.heap[j]?) := fun j _ hj p q r s => ((((Below.heap_setCell _ _ _ _ hj).trans (Below.heap_setCell _ _ _ _ hj)).trans (Below.heap_setCell _ _ _ _ hj)).trans (Below.heap_setCell _ _ _ _ hj))
        have HL1 : Hid (∀ j, v1.ownBlock = some j → j ≠ W.heap.size) := fun j hj => by have := (World.ownsRow.lt hS.r1 j hj).1; omega
        have HR1 : Hid _ := hS.r1
        have HR3 : Hid _ := hS.r3
        obtain ⟨b1, d1, hv1⟩ := row_form hS.r1
        obtain ⟨b3, d3, hv3⟩ := row_form hS.r3
        subst hv1 hv3
        clear hS
        go_wp2
        refine bodyPost_ret (res_es Tryz.results22 (t4_set _ _ _ _ HM4.out) rfl) rfl ?_
        have kp := fun (base : Nat) (v : Value) (n : Nat) (xs : List Value) (hr : wr.ownsRow base 49 5 v n xs) (hb : W.heap.size < base) (p q r s : Value) => row_keep (w' := (((wr.setCell ⟨W.heap.size, 0, none⟩ p).setCell ⟨W.heap.size, 1, none⟩ q).setCell ⟨W.heap.size, 2, none⟩ r).setCell ⟨W.heap.size, 3, none⟩ s) hr (fun j hj => HB1.out j (World.ownsRow.lt hr j hj).2 (by have := (World.ownsRow.lt hr j hj).1; omega) p q r s)
        rw [HE0.out]
        refine ⟨_, _, rfl, enat_of_row (kp _ _ _ _ HR1.out (by omega) _ _ _ _), ?_, bel4 HBw.out (Nat.le_refl _) _ _ _ _⟩
        have h3 := enat_of_row (kp _ _ _ _ HR3.out (by omega) (.slice none 0 0) (.slice b1 ([⟨own, own, -1, false, 0⟩] : List En).length d1) (.slice none 0 0) (.slice b3 ((l.take l.length).map stE).length d3))
        rw [List.take_length] at h3
        have e3 : (oneE own l).st = l.map stE := rfl
        rw [e3]
        simpa using h3
end Go.Proofs.YtadkmlcnmkdfiaaGreatDoor
