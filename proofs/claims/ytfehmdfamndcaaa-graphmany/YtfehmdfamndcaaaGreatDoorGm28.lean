/- Own text. Package graph: Load. -/
import Derived.Test.YtfehmdfamndcaaaGreatDoorGm27
namespace Go.Proofs.YtfehmdfamndcaaaGreatDoor
open Go.RowKit Go.MapKept
set_option linter.unusedVariables false
set_option linter.unusedSimpArgs false

theorem visC_all {L : Fls} {MR : ByteArray → Nd} (HM : MOk L MR) (c : Lw) : ∀ d, VisC L MR c d
  | 0 => fun W S file h h1 h2 _ _ => by omega
  | d + 1 => visit_any (visC_all HM c d) HM
abbrev S0 : Sx := ⟨[], .slice none 0 0, fun _ => none, fun _ => none⟩
theorem res_load {fn : Func} (h : fn.results = #[.cell 4 31, .tmp 5, .tmp 6, .tmp 7]) {W : World} {n : Nat} {a : Value} {t : TypeId} {tmps : Array Value} (hb : W.heap[n]? = some (.cells #[a] t (0, 0))) (ht : tmps[4]?.getD undef = .pointer (some ⟨n, 0, none⟩)) :
    (results fn tmps).run Tryz.prog W = .ok (.tuple #[.agg #[a], tmps[5]?.getD undef, tmps[6]?.getD undef, tmps[7]?.getD undef]) W := by
  have c0 : W.cell? ⟨n, 0, none⟩ = some a := by simp [World.cell?, hb]
  simp [results, h, go_sem, ht, c0]
/-- what Load answers. -/
structure LdA (L : Fls) (MR : ByteArray → Nd) (W : World) (entry : ByteArray) (e : Ending) (W' : World) (n : Int) (S : Sx) (f : Option Ft) (c : Lw) : Prop where
  fol : Fol L MR (⟨#[]⟩, entry) (Pa.nrmB entry) (Pa.nrmE entry) S0 n S f
  bel : Below W.heap.size W W'
  ok : f = none → e = .returned (.tuple #[.agg #[S.vm], .string ⟨#[]⟩, .string ⟨#[]⟩, .int .i64 0]) ∧ Ld L W' c S ∧ c.B = W.heap.size
  bad : ∀ x, f = some x → e = .returned (.tuple #[.agg #[.slice none 0 0], .string x.1.1, .string x.1.2, .int .i64 x.2])
set_option maxRecDepth 100000 in
set_option maxHeartbeats 1000000 in
theorem load_any {L : Fls} {MR : ByteArray → Nd} (HM : MOk L MR) (W : World) (tb mb : Nat) (ht : Vf.Tab W tb mb L) (he : Env W) (ho : Over W.heap.size) (entry : ByteArray) (hen : entry.size ≤ 1048576)
    (HB : Hid (∀ n S' x, Fol L MR (⟨#[]⟩, entry) (Pa.nrmB entry) (Pa.nrmE entry) S0 n S' (some x) → x.1.2.size ≤ 281474976710656)) :
    Calls Tryz.prog 6 #[.pointer (some ⟨tb, 0, none⟩), .string entry] W fun e W' => ∃ n S f c, LdA L MR W entry e W' n S f c := by
  have hmm := @run_makeMap Tryz.prog
  obtain ⟨W0, hW0⟩ : ∃ Z, (((W.alloc (.cells #[.slice none 0 0] 31)).alloc (.map #[] 0)).alloc (.map #[] 0)).alloc (.cells #[.pointer (some ⟨tb, 0, none⟩), .slice none 0 0, .map (some (W.heap.size + 1)), .map (some (W.heap.size + 1 + 1))] 48) = Z := ⟨_, rfl⟩
  have b0 : Below W.heap.size W W0 := by rw [← hW0]; exact ((((Below.refl _ _).alloc (Nat.le_refl _) _).alloc (by simp) _).alloc (by first | (simp; done) | (simp; omega)) _).alloc (by first | (simp; done) | (simp; omega)) _
  have mg : W0.heap[W.heap.size]? = some (.cells #[.slice none 0 0] 31 (0, 0)) := by rw [← hW0]; exact hold _ (by first | (simp; done) | (simp; omega)) (hold _ (by first | (simp; done) | (simp; omega)) (hold _ (by simp) (hnew _ rfl)))
  have s0 : W.heap.size + 4 ≤ W0.heap.size := by rw [← hW0]; simp
  obtain ⟨c, hc⟩ : ∃ c : Lw, c = ⟨W.heap.size, W.heap.size + 1 + 1 + 1, W.heap.size + 1, W.heap.size + 1 + 1, tb, mb⟩ := ⟨_, rfl⟩
  have h0 : Ld L W0 c S0 := by
    rw [hc]
    have h1 : MF (fun _ => True) kS vI ((W.alloc (.cells #[.slice none 0 0] 31)).alloc (.map #[] 0)) (W.alloc (.cells #[.slice none 0 0] 31)).heap.size 0 (fun _ => none) := MF.nil _
    have h2 : MF (fun _ => True) qv vI (((W.alloc (.cells #[.slice none 0 0] 31)).alloc (.map #[] 0)).alloc (.map #[] 0)) ((W.alloc (.cells #[.slice none 0 0] 31)).alloc (.map #[] 0)).heap.size 0 (fun _ => none) := MF.nil _
    have e1 : (W.alloc (.cells #[.slice none 0 0] 31)).heap.size = W.heap.size + 1 := by simp
    have e2 : ((W.alloc (.cells #[.slice none 0 0] 31)).alloc (.map #[] 0)).heap.size = W.heap.size + 1 + 1 := by simp
    rw [e1] at h1
    rw [e2] at h2
    refine ⟨by rw [← hW0]; exact hnew _ (by simp), World.ownsRow_nil _ _ _ _, ⟨0, h1.keep ?_⟩, ⟨0, h2.keep ?_⟩, fun i m h => by simp at h, by simp [Value.ownBlock], fun i m h => by simp at h, fun i j m m' h => by simp at h, by simp, by first | (simp; done) | (simp; omega), by simp, by first | (simp; done) | (simp; omega), ht.below b0 ht.ltT ht.ltM, ht.ltT, ht.ltM, env_below he b0, ho, by simp⟩
    · rw [← hW0, Below.heap_alloc _ _ _ (by first | (simp; done) | (simp; omega)), Below.heap_alloc _ _ _ (by simp)]
    · rw [← hW0]; exact Below.heap_alloc _ _ _ (by simp)
  have hcl : c.lb = W.heap.size + 1 + 1 + 1 := by rw [hc]
  have hcB : c.B = W.heap.size := by rw [hc]
  have fgk : Fg c S0 W.heap.size := by rw [hc]; exact ⟨by first | (simp; done) | (simp; omega), by simp, by first | (simp; done) | (simp; omega), by simp [Value.ownBlock], fun i m h => by simp at h⟩
  have CN := Pa.normal_any entry W0 (by omega)
  go_enter Tryz.func6, Tryz.ntmps6
  go_wp2_with fail
  go_at_call 11
  refine CN.mono ?_
  rintro e W1 ⟨rfl, b1⟩
  have bw1 : Below W.heap.size W W1 := b0.trans (b1.mono b0.size)
  have h1 := h0.bel b1
  have mg1 := (b1.block _ (by omega)).trans mg
  have s1 := b1.size
  clear hW0 CN hmm mg h0
  have CF := follow_any (visC_all HM c 65) h1 (by simp) (⟨#[]⟩, entry) (Pa.nrmB entry) (Pa.nrmB_size _) (Pa.nrmE entry)
  unfold qv at CF
  simp only at CF
  have HCF := CF
  rw [hcl] at CF
  go_wp2_with fail
  go_at_call 12
  refine CF.mono ?_
  rintro e W2 ⟨n, S', f, rfl, hFol, h2, f2, hOk⟩
  obtain ⟨fa, fb, fd, hfv⟩ : ∃ a b d, fv f = .agg #[.string a, .string b, .int .i64 d] := by cases f <;> exact ⟨_, _, _, rfl⟩
  have HFV : Hid (fv f = .agg #[.string fa, .string fb, .int .i64 fd]) := hfv
  rw [hfv]
  clear CF HCF
  have mg2 := (f2.block _ (by omega) fgk.l fgk.n fgk.g fgk.v).trans mg1
  have fg2 : Fg c S' W.heap.size := f2.fg (by omega) fgk
  have bw2 : Below W.heap.size W W2 := bw1.trans (by have := f2.below h1; rw [hcB] at this; exact this)
  have s2 := f2.size
  have bA : Below W2.heap.size W2 (W2.alloc (Obj.cells #[Value.string fa, Value.string fb, Value.int IntKind.i64 fd] 54)) := (Below.refl _ _).alloc (Nat.le_refl _) _
  have mA : (W2.alloc (Obj.cells #[Value.string fa, Value.string fb, Value.int IntKind.i64 fd] 54)).heap[W2.heap.size]? = some (.cells #[Value.string fa, Value.string fb, Value.int IntKind.i64 fd] 54 (0, 0)) := heap_alloc_new _ _
  obtain ⟨W3, hW3⟩ : ∃ X, W2.alloc (Obj.cells #[Value.string fa, Value.string fb, Value.int IntKind.i64 fd] 54) = X := ⟨_, rfl⟩
  rw [hW3] at bA mA
  have h3 := h2.bel bA
  have bw3 : Below W.heap.size W W3 := bw2.trans (bA.mono bw2.size)
  have mg3 := (bA.block _ (by omega)).trans mg2
  have NQ := fun W => ft_neq W fa fb fd
  obtain ⟨N, hN⟩ : ∃ N, W2.heap.size = N := ⟨_, rfl⟩
  have hNk : W.heap.size < N := by omega
  rw [hN] at mA
  have ltN : N < W3.heap.size := (Array.getElem?_eq_some_iff.1 mA).1
  obtain ⟨⟨y0, y1, y2⟩, _, _, _⟩ := t3 mA
  have q0 : W3.cell? ⟨W.heap.size, 0, none⟩ = some (.slice none 0 0) := by simp [World.cell?, mg3]
  have g0 : W3.frozen? ⟨W.heap.size, 0, none⟩ = false := by simp [World.frozen?, mg3]
  have hset : ∀ (X : World) (v v' : Value), X.heap[W.heap.size]? = some (.cells #[v] 31 (0, 0)) → (X.setCell ⟨W.heap.size, 0, none⟩ v').heap[W.heap.size]? = some (.cells #[v'] 31 (0, 0)) := fun X v v' h => by simp [World.setCell, Array.getElem?_modify, h]
  have HS : Hid (∀ (X : World) (v v' : Value), X.heap[W.heap.size]? = some (.cells #[v] 31 (0, 0)) → (X.setCell ⟨W.heap.size, 0, none⟩ v').heap[W.heap.size]? = some (.cells #[v'] 31 (0, 0))) := hset
  clear hset
  cases f with
  | none =>
    have hz : (!(fa.toList == [] && fb.toList == [] && fd == 0)) = false := by
      unfold fv at hfv
      simp only [Value.agg.injEq, Array.mk.injEq, List.cons.injEq, Value.int.injEq, Value.string.injEq, true_and, and_true] at hfv
      obtain ⟨rfl, rfl, rfl⟩ := hfv
      rw [ByteArray.toList_eq]; rfl
    rw [hz] at NQ
    obtain ⟨e0, e1, e2, e3⟩ := h3.cells
    rw [hcl] at e0 e1 e2 e3
    obtain ⟨avm, cvm, hvm⟩ := Pa.row_form h3.row
    have HVM : Hid (S'.vm = .slice avm S'.ms.length cvm) := hvm
    rw [hvm] at e1
    clear hfv hz hvm
    go_wp2
    refine bodyPost_ret (res_load Tryz.results6 (HS.out W3 _ _ mg3) rfl) rfl ⟨n, S', none, c, hFol, ?_, fun _ => ⟨by rw [HVM.out]; rfl, ?_, hcB⟩, fun x hx => by cases hx⟩
    · exact bw3.setCell (p := ⟨W.heap.size, 0, none⟩) (Nat.le_refl _) _
    · exact h3.put fg2 (by omega) (fun j hj _ => Below.heap_setCell _ _ _ _ hj) ((Below.refl _ _).setCell (p := ⟨W.heap.size, 0, none⟩) (by show c.B ≤ W.heap.size; omega) _)
  | some x =>
    have hxx := hOk x rfl
    obtain ⟨ha, hb, hdd⟩ : x.1.1 = fa ∧ x.1.2 = fb ∧ x.2 = fd := by
      unfold fv at hfv
      simp only [Value.agg.injEq, Array.mk.injEq, List.cons.injEq, Value.int.injEq, Value.string.injEq, true_and, and_true] at hfv
      exact hfv
    have hz : (!(fa.toList == [] && fb.toList == [] && fd == 0)) = true := by
      have : (fd == 0) = false := by rw [← hdd]; simpa using hxx
      rw [this]; simp
    rw [hz] at NQ
    have hfb : fb.size ≤ 281474976710656 := by rw [← hb]; exact HB.out n S' x hFol
    have HX : Hid (x.1.1 = fa ∧ x.1.2 = fb ∧ x.2 = fd) := ⟨ha, hb, hdd⟩
    have HW : Hid (∀ (X W4 : World), (X = W3.drew ∨ X = W3.drew.setCell ⟨W.heap.size, 0, none⟩ (.slice none 0 0)) → Below X.heap.size X W4 → (W4.heap[N]? = some (.cells #[Value.string fa, Value.string fb, Value.int IntKind.i64 fd] 54 (0, 0)) ∧ W4.heap[W.heap.size]? = some (.cells #[.slice none 0 0] 31 (0, 0))) ∧ Below W.heap.size W W4) := fun X W4 hX b4 => by
      rcases hX with rfl | rfl
      · exact ⟨⟨(b4.block _ (by exact ltN)).trans mA, (b4.block _ (by show _ < W3.heap.size; omega)).trans mg3⟩, bw3.drew.trans (b4.mono bw3.size)⟩
      · have bs : Below W.heap.size W (W3.drew.setCell ⟨W.heap.size, 0, none⟩ (.slice none 0 0)) := bw3.drew.setCell (p := ⟨W.heap.size, 0, none⟩) (Nat.le_refl _) _
        have es : (W3.drew.setCell ⟨W.heap.size, 0, none⟩ (.slice none 0 0)).heap.size = W3.heap.size := by simp
        exact ⟨⟨(b4.block _ (by rw [es]; exact ltN)).trans ((Below.heap_setCell _ _ _ _ (fun e => by have e : N = W.heap.size := e; omega)).trans mA), (b4.block _ (by rw [es]; omega)).trans (HS.out W3.drew _ _ mg3)⟩, bs.trans (b4.mono bs.size)⟩
    clear hfv hz hxx ha hb hdd
    go_wp2_with fail
    go_region_law (refine step_call1 (by rfl) 13 _ _ (by rfl) (.string fb) (by rfl) (enters_of Tryz.func13 (by kernel_rfl) rfl) (Pa.clone_any fb _ hfb) ?_
                   rintro e W4 ⟨rfl, b4⟩
                   refine ⟨_, rfl, ?_⟩
                   obtain ⟨⟨mA4, mg4⟩, bw4⟩ := HW.out _ W4 (by first | exact .inl rfl | exact .inr rfl) b4
                   obtain ⟨⟨_, _, _⟩, _, _, _⟩ := t3 mA4
                   have q4 : W4.cell? ⟨W.heap.size, 0, none⟩ = some (.slice none 0 0) := by simp [World.cell?, mg4]
                   have g4 : W4.frozen? ⟨W.heap.size, 0, none⟩ = false := by simp [World.frozen?, mg4])
    all_goals
      go_wp2
      refine bodyPost_ret (res_load Tryz.results6 (by first | exact mg4 | exact HS.out W4 _ _ mg4) rfl) rfl ⟨n, S', some x, c, hFol, ?_, (fun h => by cases h), (fun y hy => by cases hy; rw [HX.out.1, HX.out.2.1, HX.out.2.2]; rfl)⟩
      first | exact bw4 | exact bw4.setCell (p := ⟨W.heap.size, 0, none⟩) (Nat.le_refl _) _
end Go.Proofs.YtfehmdfamndcaaaGreatDoor
