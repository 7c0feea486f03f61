/- Own text. The document's loader at one file: export default 5. The document's loader at one file: its one visit. -/
import Derived.Test.YtpnljjcdlkjfhaaGreatDoorRv31
import Derived.Test.YtpnljjcdlkjfhaaGreatDoorRv34
import Derived.Test.YtpnljjcdlkjfhaaGreatDoorRv35
import Derived.Test.YtpnljjcdlkjfhaaGreatDoorRv26
set_option linter.unusedVariables false
set_option linter.unusedSimpArgs false
namespace Go.Proofs.YtpnljjcdlkjfhaaGreatDoor
open Go.RowKit
def pthA : ByteArray := ⟨#[47, 97]⟩
def tabA : Fls := [(pthA, srcB)]
theorem tabA_ris : Ris tabA := by simp [Ris, tabA]
theorem tabA_has : hasP pthA tabA = true := by simp [hasP, tabA, eqB]
theorem tabA_get : getP pthA tabA = srcB := by simp [getP, tabA, eqB]
theorem tabA_prb : prbF (fun q => hasP q tabA) pthA = some pthA := by decide +kernel
theorem reqs_m5 : reqsL M5 = [] := by decide +kernel
theorem info_mdR : (Tryz.prog.info? 103).map (fun i => (i.zero, i.size, i.bytes)) = some (some (.agg #[.string ByteArray.empty, .int .i64 0, .string ByteArray.empty, .int .i64 0, .slice none 0 0, .slice none 0 0]), 6, 96) := by kernel_rfl
/-- one module in memory, its blocks from B on: its block, its tree. -/
structure MdAt (W : World) (B gm g o c : Nat) : Prop where
  p : W.cell? ⟨gm, 0, none⟩ = some (.string pthA)
  k : W.cell? ⟨gm, 1, none⟩ = some (.int .i64 68)
  t : W.cell? ⟨gm, 2, none⟩ = some (.string ⟨#[]⟩)
  n : W.cell? ⟨gm, 3, none⟩ = some (.int .i64 0)
  ks : W.cell? ⟨gm, 4, none⟩ = some (.slice (some ⟨g, o, none⟩) 1 c)
  rq : ∃ a q, W.cell? ⟨gm, 5, none⟩ = some (.slice a 0 q)
  lo : B ≤ gm ∧ B ≤ g
  d : ∃ g2 o2 c2 a ca, B ≤ g2 ∧ D5At W g o g2 o2 c2 a ca
theorem D5At.of {W X : World} {g o g2 o2 c2 c : Nat} {a : Option Addr} (h : D5At W g o g2 o2 c2 a c) (e1 : X.heap[g]? = W.heap[g]?) (e2 : X.heap[g2]? = W.heap[g2]?) : D5At X g o g2 o2 c2 a c := by
  obtain ⟨h0, h1, h2, h3, k0, k1, k2, k3⟩ := h
  exact ⟨(World.cell?_of_block (a := ⟨g, _, none⟩) e1).trans h0, (World.cell?_of_block (a := ⟨g, _, none⟩) e1).trans h1, (World.cell?_of_block (a := ⟨g, _, none⟩) e1).trans h2, (World.cell?_of_block (a := ⟨g, _, none⟩) e1).trans h3,
    (World.cell?_of_block (a := ⟨g2, _, none⟩) e2).trans k0, (World.cell?_of_block (a := ⟨g2, _, none⟩) e2).trans k1, (World.cell?_of_block (a := ⟨g2, _, none⟩) e2).trans k2, (World.cell?_of_block (a := ⟨g2, _, none⟩) e2).trans k3⟩
theorem MdAt.lt {W : World} {B gm g o c : Nat} (h : MdAt W B gm g o c) : gm < W.heap.size := World.block_lt_of_cell? W _ h.p
theorem MdAt.keep {W X : World} {B gm g o c : Nat} (h : MdAt W B gm g o c) (e : ∀ k, B ≤ k → k < W.heap.size → X.heap[k]? = W.heap[k]?) : MdAt X B gm g o c := by
  have hl := h.lt
  obtain ⟨a, q, hr⟩ := h.rq
  obtain ⟨g2, o2, c2, a2, ca, hb, hd⟩ := h.d
  have em := e gm h.lo.1 hl
  exact ⟨(World.cell?_of_block (a := ⟨gm, _, none⟩) em).trans h.p, (World.cell?_of_block (a := ⟨gm, _, none⟩) em).trans h.k, (World.cell?_of_block (a := ⟨gm, _, none⟩) em).trans h.t, (World.cell?_of_block (a := ⟨gm, _, none⟩) em).trans h.n, (World.cell?_of_block (a := ⟨gm, _, none⟩) em).trans h.ks, ⟨a, q, (World.cell?_of_block (a := ⟨gm, _, none⟩) em).trans hr⟩, h.lo, g2, o2, c2, a2, ca, hb, hd.of (e g h.lo.2 hd.lt) (e g2 hb hd.kid.lt)⟩
theorem MdAt.bel {W X : World} {B gm g o c : Nat} (h : MdAt W B gm g o c) (b : Below W.heap.size W X) : MdAt X B gm g o c := h.keep fun k _ hk => b.block k hk
theorem MdAt.mono {W : World} {B B' gm g o c : Nat} (h : MdAt W B gm g o c) (hb : B' ≤ B) : MdAt W B' gm g o c := by
  obtain ⟨g2, o2, c2, a2, ca, hb2, hd⟩ := h.d
  exact ⟨h.p, h.k, h.t, h.n, h.ks, h.rq, ⟨Nat.le_trans hb h.lo.1, Nat.le_trans hb h.lo.2⟩, g2, o2, c2, a2, ca, Nat.le_trans hb hb2, hd⟩
abbrev wkO (fv mv : Value) : Obj := .cells #[fv, mv, .string ⟨#[]⟩, .string ⟨#[]⟩, .int .i64 0] 93
theorem box5 {w : World} {b : Nat} {p q r s u : Value} {t : TypeId} (h : w.heap[b]? = some (.cells #[p, q, r, s, u] t (0, 0))) :
    (w.cell? ⟨b, 0, none⟩ = some p ∧ w.cell? ⟨b, 1, none⟩ = some q ∧ w.cell? ⟨b, 2, none⟩ = some r ∧ w.cell? ⟨b, 3, none⟩ = some s ∧ w.cell? ⟨b, 4, none⟩ = some u) ∧ (∀ i, w.frozen? ⟨b, i, none⟩ = false) := by
  refine ⟨by simp [World.cell?, h], fun i => by simp [World.frozen?, h]⟩
theorem d5_lat {W : World} {g o g2 o2 c2 ca : Nat} {a : Option Addr} (h : D5At W g o g2 o2 c2 a ca) (c : Nat) : LAt W (fun _ => True) (.slice (some ⟨g, o, none⟩) 1 c) [D5] := by
  refine LAt.row g o c [D5] (fun _ => .slice (some ⟨g2, o2, none⟩) 1 c2) trivial h.lt (fun i hi => ?_) (fun i hi => ?_)
  · obtain rfl : i = 0 := by simp at hi; exact hi
    exact ⟨by simpa [D5, Nd.k] using h.k, by simpa [D5, Nd.t] using h.t, by simpa [D5, Nd.n] using h.n, by simpa using h.ks⟩
  · obtain rfl : i = 0 := by simp at hi; exact hi
    exact n5_lat h.kid c2
theorem rreq_m5 {X : World} {g o c : Nat} (h : LAt X (fun _ => True) (.slice (some ⟨g, o, none⟩) 1 c) M5.ks) : Calls Tryz.prog 74 #[.agg #[.int .i64 68, .string ⟨#[]⟩, .int .i64 0, .slice (some ⟨g, o, none⟩) 1 c]] X fun e w' => (∃ A q, e = .returned (.slice A 0 q)) ∧ Below X.heap.size X w' := by
  have := rreq_any M5 X (fun _ => True) (.slice (some ⟨g, o, none⟩) 1 c) h (by simp [M5, Nd.ks])
  rw [reqs_m5] at this
  refine this.mono ?_
  rintro e w' ⟨v, rfl, o4, b4⟩
  obtain ⟨A4, q4, rfl⟩ := rowN_form o4
  exact ⟨⟨A4, q4, rfl⟩, b4⟩
theorem set5_1 {w : World} {b : Nat} {p q r s u : Value} {t : TypeId} {fr : Nat × Nat} (h : w.heap[b]? = some (.cells #[p, q, r, s, u] t fr)) (q' : Value) : (w.setCell ⟨b, 1, none⟩ q').heap[b]? = some (.cells #[p, q', r, s, u] t fr) := by
  simp [World.setCell, Array.getElem?_modify, h]
section
variable {W : World} {wb fb cf : Nat}
set_option maxRecDepth 100000 in
set_option maxHeartbeats 4000000 in
theorem visit_src (hw : W.heap[wb]? = some (wkO (.slice (some ⟨fb, 0, none⟩) 1 cf) (.slice none 0 0))) (hf : W.ownsRow 0 47 2 (.slice (some ⟨fb, 0, none⟩) 1 cf) 1 (Vf.flat tabA)) :
    Calls Tryz.prog 51 #[.pointer (some ⟨wb, 0, none⟩), .string pthA, .string ⟨#[]⟩, .string pthA] W fun e w' => e = .returned (.int .i64 0) ∧ (∃ gm cm g o c, w'.heap[wb]? = some (wkO (.slice (some ⟨fb, 0, none⟩) 1 cf) (.slice (some ⟨gm, 0, none⟩) 1 cm)) ∧ MdAt w' W.heap.size gm g o c) ∧ Kpt wb W w' := by
  obtain ⟨i0, hi0, hz0, hz1, hz2⟩ := info_parts info_mdR
  have hwl := (Array.getElem?_eq_some_iff.1 hw).1
  have HF : Hid (∀ X, Below W.heap.size W X → X.ownsRow 0 47 2 (.slice (some ⟨fb, 0, none⟩) 1 cf) 1 (Vf.flat tabA)) := fun X b => row_bel hf b
  obtain ⟨⟨c0, c1, c2, c3, c4⟩, fz⟩ := box5 hw
  have HW : Hid _ := hw
  clear hw hf fz
  go_enter Tryz.func51, Tryz.ntmps51
  go_wp2_with fail
  go_loopw [9] (fun i wr => i = .int .i64 0 ∧ wr = W) (fun i _ => 0)
  case atStart => exact ⟨rfl, rfl⟩
  case round =>
    obtain ⟨rfl, rfl⟩ := hrel
    go_wp2_with fail
    go_at_call 72
    have tb : Vf.RTab (wr.alloc (.cells #[.slice (some ⟨fb, 0, none⟩) 1 cf] 143)) wr.heap.size (.slice (some ⟨fb, 0, none⟩) 1 cf) tabA := ⟨hnew _ rfl, HF.out _ (bel_a _ _)⟩
    have CR := Vf.rread_any _ _ _ _ pthA tb tabA_ris (by decide)
    rw [tabA_has, tabA_get] at CR
    refine CR.mono ?_
    rintro e W1 ⟨rfl, n1, rfl⟩
    have B1 : Hid (Below wr.heap.size wr ((wr.alloc (.cells #[.slice (some ⟨fb, 0, none⟩) 1 cf] 143)).drewN n1)) := below_drewN (bel_a _ _) n1
    clear CR tb c0 c1 c2 c3 c4
    generalize (wr.alloc (.cells #[.slice (some ⟨fb, 0, none⟩) 1 cf] 143)).drewN n1 = W1 at *
    go_wp2_with fail
    go_at_call 73
    refine (module_src W1).mono ?_
    rintro e W2 ⟨kv, rfl, l2, b2⟩
    have B2 : Hid (Below wr.heap.size wr W2) := B1.out.trans (b2.mono B1.out.size)
    obtain ⟨g, o, c, g2, o2, c2, a2, ca2, rfl, hg, hg2, hd⟩ := d5_of (h := l2)
    obtain ⟨W3, hW3⟩ : ∃ X, W2.alloc (.cells #[.int .i64 68, .string ⟨#[]⟩, .int .i64 0, .slice (some ⟨g, o, none⟩) 1 c] 51) = X := ⟨_, rfl⟩
    have b3 : Below W2.heap.size W2 W3 := by rw [← hW3]; exact bel_a _ _
    have B3 : Hid (Below wr.heap.size wr W3) := B2.out.trans (b3.mono B2.out.size)
    have D3 : Hid (D5At W3 g o g2 o2 c2 a2 ca2) := hd.bel b3 hd.lt hd.kid.lt
    have m3 : W3.heap[W2.heap.size]? = some (.cells #[.int .i64 68, .string ⟨#[]⟩, .int .i64 0, .slice (some ⟨g, o, none⟩) 1 c] 51 (0, 0)) := by rw [← hW3]; exact hnew _ rfl
    have hw3 := (B3.out.block wb hwl).trans HW.out
    obtain ⟨⟨c0, c1, c2', c3, c4⟩, fz⟩ := box5 hw3
    obtain ⟨⟨q0, q1, q2, q3⟩, _⟩ := box4 m3
    have HW3 : Hid _ := hw3
    have HM3 : Hid _ := m3
    have s2 : wr.heap.size ≤ W2.heap.size := B2.out.size
    have lM : LAt W3 (fun _ => True) (.slice (some ⟨g, o, none⟩) 1 c) M5.ks := d5_lat D3.out c
    have HLd : Hid (LAt (World.drew W3) (fun _ => True) (.slice (some ⟨g, o, none⟩) 1 c) M5.ks) := lM.keep (Nat.le_refl _) (fun _ _ _ => rfl)
    have s1 : wr.heap.size ≤ W1.heap.size := B1.out.size
    have hg' : W1.heap.size ≤ g := hg
    have hg2' : W1.heap.size ≤ g2 := hg2
    clear b2 l2 hg hg2 hd hw3 fz b3 m3 lM
    simp only [M5, Nd.v, Nd.k, Nd.t, Nd.n]
    go_wp2_with fail
    obtain ⟨S, hSd⟩ : ∃ S : World → Prop, S = fun X => X.cell? ⟨wb, 1, none⟩ = some (.slice none 0 0) ∧ X.cell? ⟨W2.heap.size, 0, none⟩ = some (.int .i64 68) ∧ X.cell? ⟨W2.heap.size, 1, none⟩ = some (.string ⟨#[]⟩) ∧ X.cell? ⟨W2.heap.size, 2, none⟩ = some (.int .i64 0) ∧ X.cell? ⟨W2.heap.size, 3, none⟩ = some (.slice (some ⟨g, o, none⟩) 1 c) := ⟨_, rfl⟩
    have HS : Hid (∀ X, X.heap[wb]? = W3.heap[wb]? → X.heap[W2.heap.size]? = W3.heap[W2.heap.size]? → S X) := fun X e1 e2 => by
      rw [hSd]
      exact ⟨(World.cell?_of_block (a := ⟨wb, 1, none⟩) e1).trans c1, (World.cell?_of_block (a := ⟨_, 0, none⟩) e2).trans q0, (World.cell?_of_block (a := ⟨_, 1, none⟩) e2).trans q1, (World.cell?_of_block (a := ⟨_, 2, none⟩) e2).trans q2, (World.cell?_of_block (a := ⟨_, 3, none⟩) e2).trans q3⟩
    have su : S (World.drew W3) := HS.out _ rfl rfl
    subst hSd
    clear q0 q1 q2 q3 c0 c1 c2' c3 c4
    refine wp_region_U (u := 12) (S := fun X => X.cell? ⟨wb, 1, none⟩ = some (.slice none 0 0) ∧ X.cell? ⟨W2.heap.size, 0, none⟩ = some (.int .i64 68) ∧ X.cell? ⟨W2.heap.size, 1, none⟩ = some (.string ⟨#[]⟩) ∧ X.cell? ⟨W2.heap.size, 2, none⟩ = some (.int .i64 0) ∧ X.cell? ⟨W2.heap.size, 3, none⟩ = some (.slice (some ⟨g, o, none⟩) 1 c)) (by kernel_rfl) ?_
    change wpAnyU _ _ _ _ _ _ _ _ _ (World.drew _)
    refine uT 0 (.pointer (some ⟨wb, 0, none⟩)) su ?_
    refine uT 1 (.pointer (some ⟨wb, 0, none⟩)) su ?_
    refine uT 2 (.pointer (some ⟨wb, 0, none⟩)) su ?_
    refine uT 3 (.pointer (some ⟨wb, 1, none⟩)) su ?_
    refine uT 4 (.slice none 0 0) su ?_
    refine uT 5 (.string pthA) su ?_
    refine uT 6 (.agg #[.int .i64 68, .string ⟨#[]⟩, .int .i64 0, .slice (some ⟨g, o, none⟩) 1 c]) su ?_
    refine uT 7 (.agg #[.int .i64 68, .string ⟨#[]⟩, .int .i64 0, .slice (some ⟨g, o, none⟩) 1 c]) su ?_
    refine U_ready (rs := [8]) (by kernel_rfl) (by simp) ?_
    refine AllU.cons rfl (by decide) (fun K hK => ?_) AllU.nil
    refine step_call1 (by kernel_rfl) 74 (.tmp 90) #[51] (by kernel_rfl) (.agg #[.int .i64 68, .string ⟨#[]⟩, .int .i64 0, .slice (some ⟨g, o, none⟩) 1 c]) (by kernel_rfl) (enters_of Tryz.func74 (by kernel_rfl) rfl) (rreq_m5 HLd.out) ?_
    rintro e W4 ⟨⟨A4, q4, rfl⟩, b4⟩
    refine ⟨_, rfl, ?_⟩
    have s3 : W2.heap.size < W3.heap.size := (Array.getElem?_eq_some_iff.1 HM3.out).1
    have e4 : ∀ k, k < W3.heap.size → W4.heap[k]? = W3.heap[k]? := fun k hk => b4.block k hk
    have s4 : W3.heap.size ≤ W4.heap.size := b4.size
    have su4 := HS.out W4 (e4 wb (by omega)) (e4 _ s3)
    refine hK.out _ _ su4 ?_
    clear hK K su
    refine uT 9 (.agg #[.string pthA, .int .i64 68, .string ⟨#[]⟩, .int .i64 0, .slice (some ⟨g, o, none⟩) 1 c, .slice A4 0 q4]) su4 ?_
    refine U_ready (rs := [10]) (by kernel_rfl) (by simp) ?_
    refine AllU.cons rfl (by decide) (fun K hK => ?_) AllU.nil
    go_simp
    have hm5 := hnew (w := W4) (.cells #[.string pthA, .int .i64 68, .string ⟨#[]⟩, .int .i64 0, .slice (some ⟨g, o, none⟩) 1 c, .slice A4 0 q4] 103) rfl
    have s5 : W4.heap.size < (W4.alloc (.cells #[.string pthA, .int .i64 68, .string ⟨#[]⟩, .int .i64 0, .slice (some ⟨g, o, none⟩) 1 c, .slice A4 0 q4] 103)).heap.size := by simp
    have e5 : ∀ k, k < W3.heap.size → (W4.alloc (.cells #[.string pthA, .int .i64 68, .string ⟨#[]⟩, .int .i64 0, .slice (some ⟨g, o, none⟩) 1 c, .slice A4 0 q4] 103)).heap[k]? = W3.heap[k]? := fun k hk => hold _ (by omega) (e4 k hk)
    have b5 : Below W3.heap.size (World.drew W3) (W4.alloc (.cells #[.string pthA, .int .i64 68, .string ⟨#[]⟩, .int .i64 0, .slice (some ⟨g, o, none⟩) 1 c, .slice A4 0 q4] 103)) := b4.alloc s4 _
    generalize W4.alloc (.cells #[.string pthA, .int .i64 68, .string ⟨#[]⟩, .int .i64 0, .slice (some ⟨g, o, none⟩) 1 c, .slice A4 0 q4] 103) = W5 at *
    have su5 := HS.out W5 (e5 wb (by omega)) (e5 _ s3)
    refine hK.out _ _ su5 ?_
    clear hK K su4
    refine U_ready (rs := [11]) (by kernel_rfl) (by simp) ?_
    refine AllU.cons rfl (by decide) (fun K hK => ?_) AllU.nil
    refine step_append_lies _ (by kernel_rfl) (.tmp 87) (.tmp 93) 36 (by kernel_rfl) 0 103 i0 _ 6 96 Tryz.underlying36 hi0 hz0 hz1 hz2 rfl (by omega) (.slice none 0 0) 0 [] (by kernel_rfl) (World.ownsRow_nil _ _ _ _) ⟨W4.heap.size, 0, none⟩ 1 1 [.string pthA, .int .i64 68, .string ⟨#[]⟩, .int .i64 0, .slice (some ⟨g, o, none⟩) 1 c, .slice A4 0 q4] (by kernel_rfl) (by rfl) (World.news_of_block (cs := #[.string pthA, .int .i64 68, .string ⟨#[]⟩, .int .i64 0, .slice (some ⟨g, o, none⟩) 1 c, .slice A4 0 q4]) (t := 103) (fr := (0, 0)) hm5) (by simp [Value.oneCell']) (by omega) (by unfold maxLen; omega) (by omega) (by omega) W5.heap.size rfl ?_
    intro gm cm W6 o6 g6 f6 l6
    have hgm : gm = W5.heap.size := by
      rcases f6 with f | f
      · cases f
      · exact f
    have b6 := grownP_bel g6
    have e6 : ∀ k, k < W3.heap.size → W6.heap[k]? = W3.heap[k]? := fun k hk => (b6.block k (by omega)).trans (e5 k hk)
    have su6 := HS.out W6 (e6 wb (by omega)) (e6 _ s3)
    refine hK.out _ _ su6 ?_
    clear hK K su5
    have w6 := (e6 wb (by omega)).trans HW3.out
    obtain ⟨⟨c0, c1, c2', c3, c4⟩, fz⟩ := box5 w6
    have f1 := fz 1
    obtain ⟨W7, hW7⟩ : ∃ X, W6.setCell ⟨wb, 1, none⟩ (.slice (some ⟨gm, 0, none⟩) 1 cm) = X := ⟨_, rfl⟩
    have w7 : W7.heap[wb]? = some (wkO (.slice (some ⟨fb, 0, none⟩) 1 cf) (.slice (some ⟨gm, 0, none⟩) 1 cm)) := by
      rw [← hW7]
      exact set5_1 w6 _
    have e7 : ∀ k, k ≠ wb → W7.heap[k]? = W6.heap[k]? := fun k ne => by rw [← hW7]; exact Below.heap_setCell _ _ _ _ ne
    have s7 : W7.heap.size = W6.heap.size := by rw [← hW7]; simp [World.setCell]
    have cm7 : ∀ j u, ([.string pthA, .int .i64 68, .string ⟨#[]⟩, .int .i64 0, .slice (some ⟨g, o, none⟩) 1 c, .slice A4 0 q4] : List Value)[j]? = some u → W7.cell? ⟨gm, j, none⟩ = some u := fun j u hj => by
      have := o6.cells (g := gm) rfl j u hj
      rw [World.cell?_of_block (a := ⟨gm, j, none⟩) (e7 gm (by omega))]
      rw [Vf.addP, Nat.zero_add] at this
      exact this
    have hgl : g < W3.heap.size := D3.out.lt
    have hgl2 : g2 < W3.heap.size := D3.out.kid.lt
    have D7 : D5At W7 g o g2 o2 c2 a2 ca2 := D3.out.of ((e7 g (by omega)).trans (e6 g (by omega))) ((e7 g2 (by omega)).trans (e6 g2 (by omega)))
    have hgm3 : W3.heap.size ≤ gm := by omega
    have M7 : Hid (MdAt W7 wr.heap.size gm g o c) := ⟨cm7 0 _ rfl, cm7 1 _ rfl, cm7 2 _ rfl, cm7 3 _ rfl, cm7 4 _ rfl, ⟨A4, q4, cm7 5 _ rfl⟩, ⟨by omega, by omega⟩, g2, o2, c2, a2, ca2, by omega, D7⟩
    have r7 : W7.cell? ⟨gm, 5, none⟩ = some (.slice A4 0 q4) := cm7 5 _ rfl
    have P7 : Hid (Kpt wb wr W7) := by
      show Kpt _ _ _
      rw [← hW7]
      exact ((Kpt.of ((below_drewN B3.out 1).trans ((b5.trans (b6.mono b5.size)).mono B3.out.size))).set 1 _)
    have HW7 : Hid _ := w7
    obtain ⟨⟨x0, x1, x2, x3, x4⟩, _⟩ := box5 w7
    clear hgm cm7 D7 w6 w7 o6 g6 l6 b6 e6 e7 e5 e4 b5 b4 hm5 su6 s7 fz HS
    refine U_end (by kernel_rfl) ?_
    refine wpAny_chain [_, _, _] [12, 13, 14] _ _ _ _ (by kernel_rfl) rfl (by decide) ?_
    go_wp2_with fail
    clear hW7
    go_loopw [17] (fun i wz => i = .int .i64 0 ∧ wz = W7) (fun i _ => 0)
    case atStart => exact ⟨rfl, rfl⟩
    case round =>
      obtain ⟨rfl, rfl⟩ := hrel
      go_wp2
      go_ret
      exact ⟨rfl, ⟨gm, cm, g, o, c, HW7.out, M7.out⟩, P7.out⟩
end
end Go.Proofs.YtpnljjcdlkjfhaaGreatDoor
