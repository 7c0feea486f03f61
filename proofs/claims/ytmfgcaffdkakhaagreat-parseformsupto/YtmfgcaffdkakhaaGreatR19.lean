/- Own text. Package parse: the rules, one by one: types of objects. -/
import Derived.Test.YtmfgcaffdkakhaaGreatR18
namespace Go.Proofs.YtmfgcaffdkakhaaGreat
open Go.RowKit Go.Maps
set_option linter.unusedVariables false
set_option linter.unusedSimpArgs false

/-- a block that is new since u is written. -/
theorem KeptR.late {R M : Nat} {u w w' : World} (k : KeptR R u w) (h : KeptR M w w') (hM : u.heap.size ≤ M) : KeptR R u w' :=
  ⟨h.os.trans k.os, h.tape.trans k.tape, h.output.trans k.output, Nat.le_trans k.size h.size, fun i hi hb => (h.block i (Nat.lt_of_lt_of_le hi k.size) (by omega)).trans (k.block i hi hb)⟩
set_option maxRecDepth 100000 in
set_option maxHeartbeats 8000000 in
theorem objt_step (L : List Tok) (hs : Small L) (f : Nat) (MN : Mono L f) (hTy : CN 95 L f 18 (typingF L f)) : CN 89 L (f + 1) 9 (objtF L (f + 1)) := by
  intro w P a o h ho hM
  have hRw := h.lt
  have hle := h.le
  have hsm := h.small
  have hbl0 := h.x.lt
  obtain ⟨h0, a0, z0, M0⟩ := begin_cell h
  obtain ⟨res, hres⟩ : ∃ r, objtF L (f + 1) a o = r := ⟨_, rfl⟩
  have HR : Hid (objtF L (f + 1) a o = res) := hres
  rw [hres]
  clear hres
  have HTY' : Hid (CN 95 L f 18 (typingF L f)) := hTy
  clear hTy
  obtain ⟨rr, hrr⟩ : ∃ r, fieldsG L (fun a' => typingF L f a' o) (L.length + 1 - a) [] [] a = r := ⟨_, rfl⟩
  have HR2 : Hid ((rr.bind fun l a1 => .ok (mk0 33 mtT l) a1) = res) := by show _ = _; rw [← HR.out, objtF, ← hrr]
  have HU : Hid (fieldsG L (fun a' => typingF L f a' o) (L.length + 1 - a) [] [] a = rr) := hrr
  clear hrr HR
  have hmm := @run_makeMap Tryz.prog
  obtain ⟨wM, hwM⟩ : ∃ W, (w.alloc zN).alloc (.map #[] 0) = W := ⟨_, rfl⟩
  have bM : Below (w.alloc zN).heap.size (w.alloc zN) wM := by rw [← hwM]; exact (Below.refl _ _).alloc (Nat.le_refl _) _
  have nM : NM wM (w.heap.size + 1) [] := by rw [← hwM, ← z0]; exact NM.nil (w.alloc zN)
  have sM : wM.heap.size = w.heap.size + 2 := by rw [← hwM]; simp
  go_enter Tryz.func89, Tryz.ntmps89
  go_wp2
  go_loopg [3] (L.length + 1 - a) (fun gk v3 wr => ∃ (b : Nat) (Lc : List (Nd × Value)) (ns : List (List UInt8)), Hid (fieldsG L (fun a' => typingF L f a' o) gk (Lc.map (·.1)) ns b = rr) ∧ Hid (L.length + 1 ≤ gk + b) ∧ Rd wr P L b (opE o) ∧ NM wr (w.heap.size + 1) ns ∧ Hid (ns.length ≤ b) ∧ Grow (w.heap.size + 2) wr v3 Lc Lc.length ∧ KeptR P.R (w.alloc zN) wr ∧ a + Lc.length ≤ b ∧ w.heap.size + 2 ≤ wr.heap.size)
  case atStart => exact ⟨a, [], [], HU.out, by show _ ≤ _; omega, h0.bel bM, nM, by show _ ≤ _; simp, Grow.nil _ _, .of bM, by simp, by omega⟩
  case round =>
    clear HU h0 bM nM
    obtain ⟨b, Lc, ns, HQ, HG, r0, n0, hns, g0, k0, hab, hsz⟩ := hrel
    have hgk := HG.out
    have hns' := hns.out
    have hbL := r0.le
    obtain ⟨g, rfl⟩ : ∃ g, gk = g + 1 := ⟨gk - 1, by omega⟩
    have CT := take_any r0 sCc
    cases hq : isS L b sCc with
    | true =>
      rw [hq] at CT
      obtain ⟨ks, hks⟩ : ∃ ks, Lc.map (·.1) = ks := ⟨_, rfl⟩
      have HKS : Hid (Lc.map (·.1) = ks) := hks
      have gl := g0.lat hks
      rw [hks] at HQ
      clear hks
      obtain ⟨ad, c, hv⟩ := gl.sl
      subst hv
      obtain rfl : Rs.ok (mk0 33 mtT ks) (b + 1) = res := by rw [← HR2.out, ← HQ.out, fieldsG, if_pos hq]; rfl
      clear HR2 HQ
      go_wp2_with fail
      go_at_call 33
      refine CT.mono ?_
      rintro e W1 ⟨rfl, r1', b1⟩
      have r1 : Rd W1 P L (b + 1) (opE o) := r1'
      have l1 := (g0.keepB b1.size (fun j h1 h2 => b1.block j h2 (by omega))).lat HKS.out
      go_wp2_with fail
      go_at_call 35
      refine (node_any 33 ⟨#[]⟩ ad ks.length c _).mono ?_
      rintro e W3 ⟨rfl, b3⟩
      have m3 := M0.out _ ((k0.trans b1).trans (.of b3))
      obtain ⟨⟨_, _, _, _⟩, _, _, _, _⟩ := t4 m3
      go_wp2
      refine bodyPost_ret (res_n4 Tryz.results89 (t4_set _ _ _ _ m3) rfl) rfl ?_
      exact close_ok (x := mk0 33 mtT ks) h (a0.trans ((k0.trans b1).trans (.of b3))) (l1.bel b3) (by omega) (r1.bel b3)
    | false =>
      rw [hq] at CT
      have HF : Hid (((addR L ns b).bind fun ns1 _ => (propR' L b).bind fun t a1 => (typingF L f a1 o).bind fun y a2 => (wantR L sSe a2).bind fun _ a3 => fieldsG L (fun a' => typingF L f a' o) g (Lc.map (·.1) ++ [mk0 34 t [y]]) ns1 a3) = rr) := by show _ = _; rw [← HQ.out, fieldsG, if_neg (by rw [hq]; decide)]
      clear HQ
      go_wp2_with fail
      go_at_call 33
      refine CT.mono ?_
      rintro e W1 ⟨rfl, r1', b1⟩
      have r1 : Rd W1 P L b (opE o) := r1'
      have s1 := b1.size
      have n1 := n0.keep (b1.block _ n0.lt (by omega))
      go_wp2_with fail
      go_at_call 94
      refine (add_any r1 n1 (by omega) (fun q => by have := hbl0 q; omega) hs (by omega)).mono ?_
      rintro e W2 A2
      cases h2 : addR L ns b with
      | bad p er =>
        rw [h2] at A2
        obtain ⟨rfl, b2⟩ := A2
        obtain rfl : Rs.bad p er = res := by rw [← HR2.out, ← HF.out, h2]; rfl
        exact ⟨rfl, rfl, a0.trans ((k0.trans b1).late b2 (by omega))⟩
      | ok ns1 b' =>
        have hA' : b = b' ∧ ns1.length = ns.length + 1 := by
          unfold addR at h2
          split at h2
          · cases h2
          · cases h2; exact ⟨rfl, by simp⟩
        obtain ⟨rfl, hln⟩ := hA'
        rw [h2] at A2
        obtain ⟨rfl, r2, n2, b2⟩ := A2
        have s2 := b2.size
        have k2 := (k0.trans b1).late b2 (by omega)
        go_wp2_with fail
        go_at_call 102
        refine (prop_any r2 hs).mono ?_
        rintro e W3 A3
        cases h3 : propR' L b with
        | bad p er =>
          rw [h3] at A3
          obtain ⟨rfl, b3⟩ := A3
          obtain rfl : Rs.bad p er = res := by rw [← HR2.out, ← HF.out, h2, Rs.bind_ok, h3]; rfl
          exact ⟨rfl, rfl, a0.trans (k2.trans b3)⟩
        | ok t a3 =>
          rw [h3] at A3
          obtain ⟨rfl, r3, b3⟩ := A3
          have g3 := prop_ge L b _ _ h3
          have y3 := r3.le
          have s3 := b3.size
          go_wp2_with fail
          go_at_call 95
          refine (HTY'.out _ _ _ _ r3 (by omega) (by unfold Ms at *; omega)).mono ?_
          rintro e W4 A4
          cases h4 : typingF L f a3 o with
          | bad p er =>
            rw [h4] at A4
            obtain ⟨rfl, b4⟩ := A4
            obtain rfl : Rs.bad p er = res := by rw [← HR2.out, ← HF.out, h2, Rs.bind_ok, h3, Rs.bind_ok, h4]; rfl
            exact ⟨rfl, rfl, a0.trans ((k2.trans b3).trans b4)⟩
          | ok y a4 =>
            rw [h4] at A4
            obtain ⟨ad, c, rfl, l4, r4, b4⟩ := A4
            have g4 := MN.typing' a3 o _ _ h4
            have y4 := r4.le
            have s4 := b4.size
            have HF2 : Hid (((wantR L sSe a4).bind fun _ a5 => fieldsG L (fun a' => typingF L f a' o) g (Lc.map (·.1) ++ [mk0 34 t [y]]) ns1 a5) = rr) := by show _ = _; rw [← HF.out, h2, Rs.bind_ok, h3, Rs.bind_ok, h4]; rfl
            clear HF
            have k4 := (k2.trans b3).trans b4
            have n4 := (n2.keep (b3.block _ n2.lt (by omega))).keep (w' := W4) (b4.block _ (by have := n2.lt; omega) (by omega))
            go_wp2_with fail
            go_at_call 35
            refine (node_any 34 t (some ⟨W4.heap.size, 0, none⟩) 1 1 _).mono ?_
            rintro e W5 ⟨rfl, b5⟩
            have s5 := b5.size
            simp at s5
            have j5 : W5.heap[W4.heap.size]? = some (.cells #[Value.int IntKind.i64 y.k, Value.string y.t, Value.int IntKind.i64 y.n, Value.slice ad y.ks.length c] 27 (0, 0)) := (b5.block _ (by simp)).trans (heap_alloc_new W4 _)
            have b5' : Below W4.heap.size W4 W5 := ((Below.refl _ _).alloc (Nat.le_refl _) _).trans (b5.mono (by simp))
            have l5 : LAt W5 (fun b => wr.heap.size ≤ b) (.slice (some ⟨W4.heap.size, 0, none⟩) 1 1) [y] := LAt.n1 (x := y) j5 (by show _ ≤ _; omega) ((l4.bel b5').mono (fun b hb => by omega))
            obtain ⟨W6, hW6⟩ : ∃ W, W5.alloc (Obj.cells #[Value.int IntKind.i64 34, Value.string t, Value.int IntKind.i64 0, Value.slice (some ⟨W4.heap.size, 0, none⟩) 1 1] 27) = W := ⟨_, rfl⟩
            have b6 : Below W5.heap.size W5 W6 := by rw [← hW6]; exact (Below.refl _ _).alloc (Nat.le_refl _) _
            have j6 : W6.heap[W5.heap.size]? = some (.cells #[Value.int IntKind.i64 34, Value.string t, Value.int IntKind.i64 0, Value.slice (some ⟨W4.heap.size, 0, none⟩) 1 1] 27 (0, 0)) := by rw [← hW6]; exact hnew _ rfl
            have s6 : W6.heap.size = W5.heap.size + 1 := by rw [← hW6]; simp
            have l6 : LAt W6 (fun b => wr.heap.size ≤ b) (.slice (some ⟨W5.heap.size, 0, none⟩) 1 1) [mk0 34 t [y]] := LAt.n1 (x := mk0 34 t [y]) j6 (by show _ ≤ _; omega) (l5.bel b6)
            have bk : ∀ j, w.heap.size + 2 ≤ j → j < wr.heap.size → W6.heap[j]? = wr.heap[j]? := fun j h1 h2 => (b6.block j (by omega)).trans ((b5'.block j (by omega)).trans ((b4.block j (by omega) (by omega)).trans ((b3.block j (by omega) (by omega)).trans ((b2.block j (by omega) (by omega)).trans (b1.block j h2 (by omega))))))
            have g6 := g0.keepB (w' := W6) (by omega) bk
            have r6 := (r4.bel b5').bel b6
            have k6 := (k4.trans (.of b5')).trans (.of b6)
            have n6 := (n4.keep (b5'.block _ n4.lt)).keep (w' := W6) (b6.block _ (by have := n4.lt; omega))
            go_wp2_with (at_builtin; refine wpList_append_lat _ (by rfl) _ _ (by rfl) (w.heap.size + 2) _ Lc.length _ (by rfl) g6.own (fun b => wr.heap.size ≤ b) (some ⟨W5.heap.size, 0, none⟩) 1 [mk0 34 t [y]] (by rfl) l6 (by simp; omega) (by omega) ?_; intro vA WA FA hFA oA gA hA kA)
            have gB := g0.app (W1 := W6) (by omega) (by omega) bk hFA kA gA hA oA
            have kA0 : KeptR P.R (w.alloc zN) WA := kept_own' k6 gA (fun g e => by have := (row_lt g6.own g e).1; omega)
            have rA := rd_own' r6 gA (fun g e => (row_lt g6.own g e).1) (by omega) (fun q => by have := hbl0 q; omega)
            have nA := n6.keep (gA.block _ n6.lt (fun e => by have := (row_lt g6.own _ e.symm).1; omega))
            have hLF : (Lc ++ FA).length = Lc.length + 1 := by have hfl := congrArg List.length hFA; simp at hfl; rw [List.length_append]; omega
            have zA := gA.size
            have CW := want_any rA sSe
            go_at_call 60
            refine CW.mono ?_
            rintro e W7 A7
            cases h7 : wantR L sSe a4 with
            | bad p er =>
              rw [h7] at A7
              obtain ⟨rfl, b7⟩ := A7
              obtain rfl : Rs.bad p er = res := by rw [← HR2.out, ← HF2.out, h7]; rfl
              exact ⟨rfl, rfl, a0.trans (kA0.trans b7)⟩
            | ok u7 a7 =>
              rw [h7] at A7
              obtain ⟨rfl, r7, b7⟩ := A7
              have g7 := want_ge L sSe a4 _ _ h7
              have s7 := b7.size
              go_wp2
              go_roundg g
              case rel => exact ⟨a7, Lc ++ FA, ns1, by show _ = _; rw [← HF2.out, h7, List.map_append, hFA]; rfl, by show _ ≤ _; omega, r7, nA.keep (b7.block _ nA.lt (by omega)), by show _ ≤ _; omega, by rw [hLF]; exact gB.keepB b7.size (fun j h1 h2 => b7.block j h2 (by omega)), kA0.trans b7, by rw [hLF]; omega, by omega⟩
              case measure => omega
end Go.Proofs.YtmfgcaffdkakhaaGreat
