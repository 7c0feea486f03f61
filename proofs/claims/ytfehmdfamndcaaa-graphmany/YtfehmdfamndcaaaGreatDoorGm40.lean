/- Own text. Package parse: the rules, one by one: types of objects. Package parse: the rules of types, all together. Package module: an alias, and the export of one, where the type is known. -/
import Derived.Test.YtfehmdfamndcaaaGreatDoorGm39
import Derived.Test.YtfehmdfamndcaaaGreatDoorGm37
import Derived.Test.YtfehmdfamndcaaaGreatDoorGm38
import Derived.Test.YtfehmdfamndcaaaGreatDoorGm24
import Derived.Test.YtfehmdfamndcaaaGreatDoorGm35
namespace Go.Proofs.YtfehmdfamndcaaaGreatDoor
open Go.RowKit Go.Maps
set_option linter.unusedVariables false
set_option linter.unusedSimpArgs false

/-- a block that is new since u is written. -/
theorem KeptR.late {R M : Nat} {u w w' : World} (k : KeptR R u w) (h : KeptR M w w') (hM : u.heap.size ≤ M) : KeptR R u w' :=
  ⟨h.os.trans k.os, h.tape.trans k.tape, h.output.trans k.output, Nat.le_trans k.size h.size, fun i hi hb => (h.block i (Nat.lt_of_lt_of_le hi k.size) (by omega)).trans (k.block i hi hb)⟩
set_option maxRecDepth 100000 in
set_option maxHeartbeats 8000000 in
theorem objt_step (L : List Tok) (hs : Small L) (f : Nat) (MN : Mono L f) (hTy : CN 155 L f 18 (typingF L f)) : CN 152 L (f + 1) 9 (objtF L (f + 1)) := by
  intro w P a o h ho hM
  have hRw := h.lt
  have hle := h.le
  have hsm := h.small
  have hbl0 := h.x.lt
  obtain ⟨h0, a0, z0, M0⟩ := begin_cell h
  obtain ⟨res, hres⟩ : ∃ r, objtF L (f + 1) a o = r := ⟨_, rfl⟩
  have HR : Hid (objtF L (f + 1) a o = res) := hres
  rw [hres]
  clear hres
  have HTY' : Hid (CN 155 L f 18 (typingF L f)) := hTy
  clear hTy
  obtain ⟨rr, hrr⟩ : ∃ r, fieldsG L (fun a' => typingF L f a' o) (L.length + 1 - a) [] [] a = r := ⟨_, rfl⟩
  have HR2 : Hid ((rr.bind fun l a1 => .ok (mk0 33 mtT l) a1) = res) := by show _ = _; rw [← HR.out, objtF, ← hrr]
  have HU : Hid (fieldsG L (fun a' => typingF L f a' o) (L.length + 1 - a) [] [] a = rr) := hrr
  clear hrr HR
  have hmm := @run_makeMap Tryz.prog
  obtain ⟨wM, hwM⟩ : ∃ W, (w.alloc zN).alloc (.map #[] 0) = W := ⟨_, rfl⟩
  have bM : Below (w.alloc zN).heap.size (w.alloc zN) wM := by rw [← hwM]; exact (Below.refl _ _).alloc (Nat.le_refl _) _
  have nM : NM wM (w.heap.size + 1) [] := by rw [← hwM, ← z0]; exact NM.nil (w.alloc zN)
  have sM : wM.heap.size = w.heap.size + 2 := by rw [← hwM]; simp
  go_enter Tryz.func152, Tryz.ntmps152
  go_wp2
  go_loopg [3] (L.length + 1 - a) (fun gk v3 wr => ∃ (b : Nat) (Lc : List (Nd × Value)) (ns : List (List UInt8)), Hid (fieldsG L (fun a' => typingF L f a' o) gk (Lc.map (·.1)) ns b = rr) ∧ Hid (L.length + 1 ≤ gk + b) ∧ Rd wr P L b (opE o) ∧ NM wr (w.heap.size + 1) ns ∧ Hid (ns.length ≤ b) ∧ Grow (w.heap.size + 2) wr v3 Lc Lc.length ∧ KeptR P.R (w.alloc zN) wr ∧ a + Lc.length ≤ b ∧ w.heap.size + 2 ≤ wr.heap.size)
  case atStart => exact ⟨a, [], [], HU.out, by show _ ≤ _; omega, h0.bel bM, nM, by show _ ≤ _; simp, Grow.nil _ _, .of bM, by simp, by omega⟩
  case round =>
    clear HU h0 bM nM
    obtain ⟨b, Lc, ns, HQ, HG, r0, n0, hns, g0, k0, hab, hsz⟩ := hrel
    have hgk := HG.out
    have hns' := hns.out
    have hbL := r0.le
    obtain ⟨g, rfl⟩ : ∃ g, gk = g + 1 := ⟨gk - 1, by omega⟩
    have CT := take_any r0 sCc
    cases hq : isS L b sCc with
    | true =>
      rw [hq] at CT
      obtain ⟨ks, hks⟩ : ∃ ks, Lc.map (·.1) = ks := ⟨_, rfl⟩
      have HKS : Hid (Lc.map (·.1) = ks) := hks
      have gl := g0.lat hks
      rw [hks] at HQ
      clear hks
      obtain ⟨ad, c, hv⟩ := gl.sl
      subst hv
      obtain rfl : Rs.ok (mk0 33 mtT ks) (b + 1) = res := by rw [← HR2.out, ← HQ.out, fieldsG, if_pos hq]; rfl
      clear HR2 HQ
      go_wp2_with fail
      go_at_call 62
      refine CT.mono ?_
      rintro e W1 ⟨rfl, r1', b1⟩
      have r1 : Rd W1 P L (b + 1) (opE o) := r1'
      have l1 := (g0.keepB b1.size (fun j h1 h2 => b1.block j h2 (by omega))).lat HKS.out
      go_wp2_with fail
      go_at_call 64
      refine (node_any 33 ⟨#[]⟩ ad ks.length c _).mono ?_
      rintro e W3 ⟨rfl, b3⟩
      have m3 := M0.out _ ((k0.trans b1).trans (.of b3))
      obtain ⟨⟨_, _, _, _⟩, _, _, _, _⟩ := t4 m3
      go_wp2
      refine bodyPost_ret (res_n4 Tryz.results152 (t4_set _ _ _ _ m3) rfl) rfl ?_
      exact close_ok (x := mk0 33 mtT ks) h (a0.trans ((k0.trans b1).trans (.of b3))) (l1.bel b3) (by omega) (r1.bel b3)
    | false =>
      rw [hq] at CT
      have HF : Hid (((addR L ns b).bind fun ns1 _ => (propR' L b).bind fun t a1 => (typingF L f a1 o).bind fun y a2 => (wantR L sSe a2).bind fun _ a3 => fieldsG L (fun a' => typingF L f a' o) g (Lc.map (·.1) ++ [mk0 34 t [y]]) ns1 a3) = rr) := by show _ = _; rw [← HQ.out, fieldsG, if_neg (by rw [hq]; decide)]
      clear HQ
      go_wp2_with fail
      go_at_call 62
      refine CT.mono ?_
      rintro e W1 ⟨rfl, r1', b1⟩
      have r1 : Rd W1 P L b (opE o) := r1'
      have s1 := b1.size
      have n1 := n0.keep (b1.block _ n0.lt (by omega))
      go_wp2_with fail
      go_at_call 94
      refine (add_any r1 n1 (by omega) (fun q => by have := hbl0 q; omega) hs (by omega)).mono ?_
      rintro e W2 A2
      cases h2 : addR L ns b with
      | bad p er =>
        rw [h2] at A2
        obtain ⟨rfl, b2⟩ := A2
        obtain rfl : Rs.bad p er = res := by rw [← HR2.out, ← HF.out, h2]; rfl
        exact ⟨rfl, rfl, a0.trans ((k0.trans b1).late b2 (by omega))⟩
      | ok ns1 b' =>
        have hA' : b = b' ∧ ns1.length = ns.length + 1 := by
          unfold addR at h2
          split at h2
          · cases h2
          · cases h2; exact ⟨rfl, by simp⟩
        obtain ⟨rfl, hln⟩ := hA'
        rw [h2] at A2
        obtain ⟨rfl, r2, n2, b2⟩ := A2
        have s2 := b2.size
        have k2 := (k0.trans b1).late b2 (by omega)
        go_wp2_with fail
        go_at_call 95
        refine (prop_any r2 hs).mono ?_
        rintro e W3 A3
        cases h3 : propR' L b with
        | bad p er =>
          rw [h3] at A3
          obtain ⟨rfl, b3⟩ := A3
          obtain rfl : Rs.bad p er = res := by rw [← HR2.out, ← HF.out, h2, Rs.bind_ok, h3]; rfl
          exact ⟨rfl, rfl, a0.trans (k2.trans b3)⟩
        | ok t a3 =>
          rw [h3] at A3
          obtain ⟨rfl, r3, b3⟩ := A3
          have g3 := prop_ge L b _ _ h3
          have y3 := r3.le
          have s3 := b3.size
          go_wp2_with fail
          go_at_call 155
          refine (HTY'.out _ _ _ _ r3 (by omega) (by unfold Ms at *; omega)).mono ?_
          rintro e W4 A4
          cases h4 : typingF L f a3 o with
          | bad p er =>
            rw [h4] at A4
            obtain ⟨rfl, b4⟩ := A4
            obtain rfl : Rs.bad p er = res := by rw [← HR2.out, ← HF.out, h2, Rs.bind_ok, h3, Rs.bind_ok, h4]; rfl
            exact ⟨rfl, rfl, a0.trans ((k2.trans b3).trans b4)⟩
          | ok y a4 =>
            rw [h4] at A4
            obtain ⟨ad, c, rfl, l4, r4, b4⟩ := A4
            have g4 := MN.typing' a3 o _ _ h4
            have y4 := r4.le
            have s4 := b4.size
            have HF2 : Hid (((wantR L sSe a4).bind fun _ a5 => fieldsG L (fun a' => typingF L f a' o) g (Lc.map (·.1) ++ [mk0 34 t [y]]) ns1 a5) = rr) := by show _ = _; rw [← HF.out, h2, Rs.bind_ok, h3, Rs.bind_ok, h4]; rfl
            clear HF
            have k4 := (k2.trans b3).trans b4
            have n4 := (n2.keep (b3.block _ n2.lt (by omega))).keep (w' := W4) (b4.block _ (by have := n2.lt; omega) (by omega))
            go_wp2_with fail
            go_at_call 64
            refine (node_any 34 t (some ⟨W4.heap.size, 0, none⟩) 1 1 _).mono ?_
            rintro e W5 ⟨rfl, b5⟩
            have s5 := b5.size
            simp at s5
            have j5 : W5.heap[W4.heap.size]? = some (.cells #[Value.int IntKind.i64 y.k, Value.string y.t, Value.int IntKind.i64 y.n, Value.slice ad y.ks.length c] 62 (0, 0)) := (b5.block _ (by simp)).trans (heap_alloc_new W4 _)
            have b5' : Below W4.heap.size W4 W5 := ((Below.refl _ _).alloc (Nat.le_refl _) _).trans (b5.mono (by simp))
            have l5 : LAt W5 (fun b => wr.heap.size ≤ b) (.slice (some ⟨W4.heap.size, 0, none⟩) 1 1) [y] := LAt.n1 (x := y) j5 (by show _ ≤ _; omega) ((l4.bel b5').mono (fun b hb => by omega))
            obtain ⟨W6, hW6⟩ : ∃ W, W5.alloc (Obj.cells #[Value.int IntKind.i64 34, Value.string t, Value.int IntKind.i64 0, Value.slice (some ⟨W4.heap.size, 0, none⟩) 1 1] 62) = W := ⟨_, rfl⟩
            have b6 : Below W5.heap.size W5 W6 := by rw [← hW6]; exact (Below.refl _ _).alloc (Nat.le_refl _) _
            have j6 : W6.heap[W5.heap.size]? = some (.cells #[Value.int IntKind.i64 34, Value.string t, Value.int IntKind.i64 0, Value.slice (some ⟨W4.heap.size, 0, none⟩) 1 1] 62 (0, 0)) := by rw [← hW6]; exact hnew _ rfl
            have s6 : W6.heap.size = W5.heap.size + 1 := by rw [← hW6]; simp
            have l6 : LAt W6 (fun b => wr.heap.size ≤ b) (.slice (some ⟨W5.heap.size, 0, none⟩) 1 1) [mk0 34 t [y]] := LAt.n1 (x := mk0 34 t [y]) j6 (by show _ ≤ _; omega) (l5.bel b6)
            have bk : ∀ j, w.heap.size + 2 ≤ j → j < wr.heap.size → W6.heap[j]? = wr.heap[j]? := fun j h1 h2 => (b6.block j (by omega)).trans ((b5'.block j (by omega)).trans ((b4.block j (by omega) (by omega)).trans ((b3.block j (by omega) (by omega)).trans ((b2.block j (by omega) (by omega)).trans (b1.block j h2 (by omega))))))
            have g6 := g0.keepB (w' := W6) (by omega) bk
            have r6 := (r4.bel b5').bel b6
            have k6 := (k4.trans (.of b5')).trans (.of b6)
            have n6 := (n4.keep (b5'.block _ n4.lt)).keep (w' := W6) (b6.block _ (by have := n4.lt; omega))
            go_wp2_with (at_builtin; refine wpList_append_lat _ (by rfl) _ _ (by rfl) (w.heap.size + 2) _ Lc.length _ (by rfl) g6.own (fun b => wr.heap.size ≤ b) (some ⟨W5.heap.size, 0, none⟩) 1 [mk0 34 t [y]] (by rfl) l6 (by simp; omega) (by omega) ?_; intro vA WA FA hFA oA gA hA kA)
            have gB := g0.app (W1 := W6) (by omega) (by omega) bk hFA kA gA hA oA
            have kA0 : KeptR P.R (w.alloc zN) WA := kept_own' k6 gA (fun g e => by have := (row_lt g6.own g e).1; omega)
            have rA := rd_own' r6 gA (fun g e => (row_lt g6.own g e).1) (by omega) (fun q => by have := hbl0 q; omega)
            have nA := n6.keep (gA.block _ n6.lt (fun e => by have := (row_lt g6.own _ e.symm).1; omega))
            have hLF : (Lc ++ FA).length = Lc.length + 1 := by have hfl := congrArg List.length hFA; simp at hfl; rw [List.length_append]; omega
            have zA := gA.size
            have CW := want_any rA sSe
            go_at_call 61
            refine CW.mono ?_
            rintro e W7 A7
            cases h7 : wantR L sSe a4 with
            | bad p er =>
              rw [h7] at A7
              obtain ⟨rfl, b7⟩ := A7
              obtain rfl : Rs.bad p er = res := by rw [← HR2.out, ← HF2.out, h7]; rfl
              exact ⟨rfl, rfl, a0.trans (kA0.trans b7)⟩
            | ok u7 a7 =>
              rw [h7] at A7
              obtain ⟨rfl, r7, b7⟩ := A7
              have g7 := want_ge L sSe a4 _ _ h7
              have s7 := b7.size
              go_wp2
              go_roundg g
              case rel => exact ⟨a7, Lc ++ FA, ns1, by show _ = _; rw [← HF2.out, h7, List.map_append, hFA]; rfl, by show _ ≤ _; omega, r7, nA.keep (b7.block _ nA.lt (by omega)), by show _ ≤ _; omega, by rw [hLF]; exact gB.keepB b7.size (fun j h1 h2 => b7.block j h2 (by omega)), kA0.trans b7, by rw [hLF]; omega, by omega⟩
              case measure => omega
end Go.Proofs.YtfehmdfamndcaaaGreatDoor
namespace Go.Proofs.YtfehmdfamndcaaaGreatDoor
open Go.RowKit
set_option linter.unusedVariables false
set_option linter.unusedSimpArgs false

structure AllT (L : List Tok) (f : Nat) : Prop where
  hT : CN 113 L f 20 (typeF L f)
  hTy : CN 155 L f 18 (typingF L f)
  hPt : CN 129 L f 12 (ptypeF L f)
  hRt : CN 139 L f 11 (rtypeF L f)
  hOt : CN 152 L f 9 (objtF L f)
  hFt : CN 154 L f 10 (ftypeF L f)
theorem allT (L : List Tok) (hs : Small L) : ∀ f, AllT L f := by
  intro f
  induction f with
  | zero =>
    refine { hT := ?_, hTy := ?_, hPt := ?_, hRt := ?_, hOt := ?_, hFt := ?_ }
    all_goals (intro w P a o h ho hM; exfalso; unfold Ms at hM; omega)
  | succ f ih =>
    have MN := mono_all L f
    exact {
      hT := type_step L hs f MN ih.hPt
      hTy := typing_step L hs f MN ih.hT
      hPt := ptype_step L hs f MN ih.hRt
      hRt := rtype_step L hs f MN ih.hOt ih.hFt ih.hT
      hOt := objt_step L hs f MN ih.hTy
      hFt := ftype_step L hs f MN ih.hTy ih.hT
    }
theorem eg_aTypeT : ∀ args w, (callFunc 113 args).run Tryz.prog w = .ok (.enter 113 args) w := Go.Proofs.enters_of Tryz.func113 (by kernel_rfl) rfl
theorem res_TypeT {W : World} {p : Nat} {a b c d vq vr : Value} {tmps : Array Value} (mp : W.heap[p]? = some (.cells #[a, b, c, d] 62 (0, 0))) (h4 : tmps[4]?.getD undef = .pointer (some ⟨p, 0, none⟩)) (h5 : tmps[5]?.getD undef = vq) (h6 : tmps[6]?.getD undef = vr) : (results Tryz.f81 tmps).run Tryz.prog W = .ok (.tuple #[.agg #[a, b, c, d], vq, vr]) W := by
  obtain ⟨⟨c0, c1, c2, c3⟩, _⟩ := t4 mp
  simp [results, Tryz.results81, go_sem, h4, h5, h6, c0, c1, c2, c3]
set_option maxRecDepth 100000 in
set_option maxHeartbeats 4000000 in
theorem faceTypeT (L : List Tok) (w : World) (v : Value) (i : Int) (hv : TkV w v L) (hi : -9223372036854775808 ≤ i ∧ i ≤ 9223372036854775807) :
    Calls Tryz.prog 81 #[v, .int .i64 i] w (AnsF w (readP L (typeF L (fuelL L)) i)) := by
  have bel_n : ∀ o, Below w.heap.size w (w.alloc o) := fun o => (Below.refl _ _).alloc (Nat.le_refl _) o
  have hv' : ∀ o, TkV (w.alloc o) v L := fun o => by
    obtain ⟨⟨ta, tc, bl, of, e, h1, h2, h3⟩, h4, h5⟩ := hv
    exact ⟨⟨ta, tc, bl, of, e, h1, h2.bel (bel_n o), h3⟩, h4, h5⟩
  have C := fun o => read_any L _ _ eg_aTypeT (allT L hv.texts (fuelL L)).hT _ v i (hv' o) hi
  generalize readP L (typeF L (fuelL L)) i = r at *
  have M0 : Hid (∀ W, Below (w.alloc zN).heap.size (w.alloc zN) W → W.heap[w.heap.size]? = some (.cells #[Value.int IntKind.i64 0, Value.string ⟨#[]⟩, Value.int IntKind.i64 0, Value.slice none 0 0] 62 (0, 0))) := fun W b => (b.block _ (by simp)).trans (heap_alloc_new w _)
  go_enter Tryz.func81, Tryz.ntmps81
  go_wp2_with (go_at_call 112; refine (C _).mono ?_; rintro e W1 ⟨ad, c, rfl, l1, b1⟩; have m1 := M0.out _ b1; obtain ⟨⟨_, _, _, _⟩, _, _, _, _⟩ := t4 m1)
  have b2 : Below w.heap.size w W1 := (bel_n _).trans (b1.mono (by simp))
  have s1 := b1.size
  simp at s1
  refine bodyPost_ret (res_TypeT (t4_set _ _ _ _ m1) rfl rfl rfl) rfl ⟨ad, c, rfl, ?_, ?_⟩
  · exact (l1.mono (T := fun b => w.heap.size + 1 ≤ b) (fun b hb => by simp at hb; omega)).set4 (by omega) (by omega) _ _ _ _
  · exact (((b2.setCell (Nat.le_refl _) _).setCell (Nat.le_refl _) _).setCell (Nat.le_refl _) _).setCell (Nat.le_refl _) _
end Go.Proofs.YtfehmdfamndcaaaGreatDoor
namespace Go.Proofs.YtfehmdfamndcaaaGreatDoor
open Go.RowKit
set_option linter.unusedVariables false
set_option linter.unusedSimpArgs false

/-- an alias, its type read by T. -/
def aliasT (L : List Tok) (T : Nat → Rs Nd) (a : Nat) : Rs Nd := (idR L (a + 1)).bind fun t a1 => (wantR L sAs a1).bind fun _ a2 => (T a2).bind fun y a3 => endM L (mk0 46 t [y]) a3
theorem idR_at {L : List Tok} {a b : Nat} {t : ByteArray} (h : idR L a = .ok t b) : b = a + 1 := by
  unfold idR at h
  split at h
  · cases h; rfl
  · cases h
theorem wantR_at {L : List Tok} {s : ByteArray} {a b : Nat} {u : Unit} (h : wantR L s a = .ok u b) : b = a + 1 := by
  unfold wantR at h
  split at h
  · cases h; rfl
  · cases h
theorem eg_aliasF : ∀ args w, (callFunc 46 args).run Tryz.prog w = .ok (.enter 46 args) w := Go.Proofs.enters_of Tryz.func46 (by kernel_rfl) rfl
theorem eg_TypeF : ∀ args w, (callFunc 81 args).run Tryz.prog w = .ok (.enter 81 args) w := Go.Proofs.enters_of Tryz.func81 (by kernel_rfl) rfl
/-- a type that is read: by layer 6, at the tokens from here on. -/
theorem by_typeF {L : List Tok} (hs : Small L) {w : World} {P : Pl} {a : Nat} (h : Rd w P L a mE) {x : Nd} {b : Nat} (ht : typeF (L.drop a) (fuelL (L.drop a)) 0 0 = .ok x b) (hb : b ≤ (L.drop a).length) : Calls Tryz.prog 80 #[.pointer (some ⟨P.R, 0, none⟩), .func (.func 81) #[] #[]] w (AnsN P L mE w (.ok x (b + a))) := by
  refine by_any hs h eg_TypeF (.ok x b) (fun W v hv => ?_) (Gd.ok (Nat.zero_le _) hb) (Bd.ok hb)
  have C := faceTypeT (L.drop a) W v 0 hv (by omega)
  have e : readP (L.drop a) (typeF (L.drop a) (fuelL (L.drop a))) 0 = faceR (.ok x b) := by
    unfold readP
    rw [if_neg (by omega), if_neg (by omega), ← ht]
    rfl
  rw [e] at C
  exact C
set_option maxRecDepth 100000 in
set_option maxHeartbeats 8000000 in
theorem alias_f {L : List Tok} (hs : Small L) {w : World} {P : Pl} {a : Nat} (h : Rd w P L a mE) (hlt : a < L.length) (T : Nat → Rs Nd) (hT : ∀ W b, Rd W P L b mE → b = a + 3 → Calls Tryz.prog 80 #[.pointer (some ⟨P.R, 0, none⟩), .func (.func 81) #[] #[]] W (AnsN P L mE W (T b))) : Calls Tryz.prog 46 #[.pointer (some ⟨P.R, 0, none⟩)] w (AnsN P L mE w (aliasT L T a)) := by
  have HT : Hid (∀ W b, Rd W P L b mE → b = a + 3 → Calls Tryz.prog 80 #[.pointer (some ⟨P.R, 0, none⟩), .func (.func 81) #[] #[]] W (AnsN P L mE W (T b))) := hT
  clear hT
  have hRw := h.lt
  have hle := h.le
  obtain ⟨h0, a0, z0, M0⟩ := begin_cell h
  obtain ⟨res, hres⟩ : ∃ r, aliasT L T a = r := ⟨_, rfl⟩
  have HR : Hid (aliasT L T a = res) := hres
  rw [hres]
  clear hres
  go_enter Tryz.func46, Tryz.ntmps46
  go_wp2_with fail
  go_at_call 59
  refine (pass_any h0 hlt (hs.at _)).mono ?_
  rintro e W6 ⟨rfl, r6, b6⟩
  have k6 := (KeptR.refl P.R (w.alloc zN)).trans b6
  have z6 := k6.size
  have y6 := r6.le
  go_wp2_with fail
  go_at_call 60
  refine (id_any r6 hs).mono ?_
  rintro e W7 A7
  cases h7 : idR L (a + 1) with
  | bad p er =>
    rw [h7] at A7
    obtain ⟨rfl, b7⟩ := A7
    obtain rfl : Rs.bad p er = res := by rw [← HR.out, aliasT]; simp [Rs.bind, mtT, endM, h7]
    exact ⟨rfl, rfl, a0.trans (k6.trans b7)⟩
  | ok x7 a7 =>
    rw [h7] at A7
    obtain ⟨rfl, r7, b7⟩ := A7
    have g7 := (id_ge L (a + 1)) _ _ h7
    have y7 := r7.le
    have k7 := k6.trans b7
    have z7 := k7.size
    go_wp2_with fail
    go_at_call 61
    refine (want_any r7 sAs).mono ?_
    rintro e W8 A8
    cases h8 : wantR L sAs a7 with
    | bad p er =>
      rw [h8] at A8
      obtain ⟨rfl, b8⟩ := A8
      obtain rfl : Rs.bad p er = res := by rw [← HR.out, aliasT]; simp [Rs.bind, mtT, endM, h7, h8]
      exact ⟨rfl, rfl, a0.trans (k7.trans b8)⟩
    | ok x8 a8 =>
      rw [h8] at A8
      obtain ⟨rfl, r8, b8⟩ := A8
      have g8 := (want_ge L sAs a7) _ _ h8
      have y8 := r8.le
      have k8 := k7.trans b8
      have z8 := k8.size
      go_wp2_with fail
      go_at_call 80
      have ea8 : a8 = a + 3 := by have := idR_at h7; have := wantR_at h8; omega
      refine (HT.out _ _ r8 ea8).mono ?_
      rintro e W9 A9
      cases h9 : T a8 with
      | bad p er =>
        rw [h9] at A9
        obtain ⟨rfl, b9⟩ := A9
        obtain rfl : Rs.bad p er = res := by rw [← HR.out, aliasT]; simp [Rs.bind, mtT, endM, h7, h8, h9]
        exact ⟨rfl, rfl, a0.trans (k8.trans b9)⟩
      | ok x9 a9 =>
        rw [h9] at A9
        obtain ⟨ad9, c9, rfl, l9', r9, b9⟩ := A9
        have y9 := r9.le
        have k9 := k8.trans b9
        have z9 := k9.size
        have l9 := l9'.mono (T := fun b => w.heap.size + 1 ≤ b) (fun b hb => by have := k8.size; omega)
        go_wp2_with fail
        go_at_call 64
        refine (node_any 46 x7 (some ⟨W9.heap.size, 0, none⟩) 1 1 _).mono ?_
        rintro e W10 ⟨rfl, b10'⟩
        have j10 : W10.heap[W9.heap.size]? = some (.cells #[Value.int IntKind.i64 x9.k, Value.string x9.t, Value.int IntKind.i64 x9.n, Value.slice ad9 x9.ks.length c9] 62 (0, 0)) := (b10'.block _ (by simp)).trans (heap_alloc_new W9 _)
        have r10 := (r9.bel ((Below.refl _ _).alloc (Nat.le_refl _) (Obj.cells #[Value.int IntKind.i64 x9.k, Value.string x9.t, Value.int IntKind.i64 x9.n, Value.slice ad9 x9.ks.length c9] 62))).bel b10'
        have b10 : KeptR P.R W9 W10 := (KeptR.of ((Below.refl _ _).alloc (Nat.le_refl _) _)).trans (.of b10')
        have k10 := k9.trans b10
        have z10 := k10.size
        have l10 : LAt W10 (fun b => w.heap.size + 1 ≤ b) (.slice (some ⟨W9.heap.size, 0, none⟩) 1 1) [x9] := LAt.n1 j10 (by have := k9.size; show _ ≤ _; omega) (l9.keepR ((KeptR.refl P.R W9).trans b10) (by omega))
        go_wp2_with fail
        go_at_call 70
        refine (endedm_any r10 _ _ _ _ _ _).mono ?_
        rintro e W11 A11
        cases h11 : wantR L sSe a9 with
        | bad p er =>
          rw [h11] at A11
          obtain ⟨rfl, b11⟩ := A11
          obtain rfl : Rs.bad p er = res := by rw [← HR.out, aliasT]; simp [Rs.bind, mtT, endM, h7, h8, h9, h11]
          exact ⟨rfl, rfl, a0.trans (k10.trans b11)⟩
        | ok x11 a11 =>
          rw [h11] at A11
          obtain ⟨rfl, r11, b11⟩ := A11
          have y11 := r11.le
          have k11 := k10.trans b11
          have z11 := k11.size
          obtain rfl : Rs.ok (mk0 46 x7 [x9]) a11 = res := by rw [← HR.out, aliasT]; simp [Rs.bind, mtT, endM, h7, h8, h9, h11]
          have m0 := M0.out _ k11
          obtain ⟨⟨_, _, _, _⟩, _, _, _, _⟩ := t4 m0
          go_wp2
          refine bodyPost_ret (res_n4 Tryz.results46 (t4_set _ _ _ _ m0) rfl) rfl ?_
          exact close_ok (x := (mk0 46 x7 [x9])) h (a0.trans k11) (l10.keepR ((KeptR.refl P.R W10).trans b11) (by omega)) (by omega) r11
set_option maxRecDepth 100000 in
set_option maxHeartbeats 8000000 in
/-- the export of an alias that is read. -/
theorem exports_f {L : List Tok} (hs : Small L) {w : World} {P : Pl} {a : Nat} (h : Rd w P L a mE) (hlt : a < L.length) (q2 : isWd L (a + 1) wDefault = false) (q17 : isS L (a + 1) sSt = false) (q19 : isS L (a + 1) sCb = false) (q23 : isNm L (a + 1) nType = true) (q26 : isS L (a + 1 + 1) sCb = false) (qd : dcK L (a + 1) = some 46) {x : Nd} {b : Nat}
    (hC : ∀ W, Rd W P L (a + 1) mE → Calls Tryz.prog 46 #[.pointer (some ⟨P.R, 0, none⟩)] W (AnsN P L mE W (.ok x b))) :
    Calls Tryz.prog 44 #[.pointer (some ⟨P.R, 0, none⟩)] w (AnsN P L mE w (.ok (mk0 62 mtT [x]) b)) := by
  have HC : Hid (∀ W, Rd W P L (a + 1) mE → Calls Tryz.prog 46 #[.pointer (some ⟨P.R, 0, none⟩)] W (AnsN P L mE W (.ok x b))) := hC
  clear hC
  have hRw := h.lt
  have hle := h.le
  obtain ⟨h0, a0, z0, M0⟩ := begin_cell h
  go_enter Tryz.func44, Tryz.ntmps44
  go_wp2_with fail
  go_at_call 59
  refine (pass_any h0 hlt (hs.at _)).mono ?_
  rintro e W1 ⟨rfl, r1, b1⟩
  have k1 := (KeptR.refl P.R (w.alloc zN)).trans b1
  have z1 := k1.size
  have y1 := r1.le
  have T2 := takeWord_any r1 wDefault
  rw [q2] at T2
  go_wp2_with fail
  go_at_call 71
  refine T2.mono ?_
  rintro e W2 ⟨rfl, r2', b2⟩
  have r2 : Rd W2 P L (a + 1) mE := r2'
  clear r2'
  have k2 := k1.trans b2
  have z2 := k2.size
  have T17 := stands_any r2 sSt
  rw [q17] at T17
  go_wp2_with fail
  go_at_call 73
  refine T17.mono ?_
  rintro e W17 ⟨rfl, b17'⟩
  have r17 := r2.bel b17'
  have b17 := KeptR.of (b := P.R) b17'
  have k17 := k2.trans b17
  have T19 := stands_any r17 sCb
  rw [q19] at T19
  go_wp2_with fail
  go_at_call 73
  refine T19.mono ?_
  rintro e W19 ⟨rfl, b19'⟩
  have r19 := r17.bel b19'
  have b19 := KeptR.of (b := P.R) b19'
  have k19 := k17.trans b19
  have TK21 := token_any r19
  have TN21 : ∀ W, Calls Tryz.prog 76 #[(tokA L (a + 1)).v, .string nType] W fun e w' => e = .returned (.bool (isNm L (a + 1) nType)) ∧ Below W.heap.size W w' := fun W => isName_any (tokA L (a + 1)) nType W
  rw [q23] at TN21
  go_wp2_with fail
  go_at_call 58
  refine TK21.mono ?_
  rintro e W21 ⟨rfl, b21'⟩
  have r21 := r19.bel b21'
  have b21 := KeptR.of (b := P.R) b21'
  have k21 := k19.trans b21
  go_wp2_with fail
  go_at_call 76
  refine (TN21 _).mono ?_
  rintro e W22 ⟨rfl, b22'⟩
  have r22 := r21.bel b22'
  have b22 := KeptR.of (b := P.R) b22'
  have k22 := k21.trans b22
  have TA := ahead_any r22 1 (by omega)
  have TS : ∀ W, Calls Tryz.prog 77 #[(tokA L (a + 1 + 1)).v, .string sCb] W fun e w' => e = .returned (.bool (isS L (a + 1 + 1) sCb)) ∧ Below W.heap.size W w' := fun W => isSign_any (tokA L (a + 1 + 1)) sCb W
  rw [q26] at TS
  go_wp2_with fail
  go_at_call 78
  refine TA.mono ?_
  rintro e W24 ⟨rfl, b24'⟩
  have r24 := r22.bel b24'
  have b24 := KeptR.of (b := P.R) b24'
  have k24 := k22.trans b24
  go_wp2_with fail
  go_at_call 77
  refine (TS _).mono ?_
  rintro e W25 ⟨rfl, b25'⟩
  have r25 := r24.bel b25'
  have b25 := KeptR.of (b := P.R) b25'
  have k25 := k24.trans b25
  have D30 := declared_any r25
  rw [qd] at D30
  go_wp2_with fail
  go_at_call 79
  refine D30.mono ?_
  rintro e W30 ⟨rfl, b30'⟩
  have r30 := r25.bel b30'
  have b30 := KeptR.of (b := P.R) b30'
  have k30 := k25.trans b30
  have z30 := k30.size
  unfold bound
  have eg31 := eg_aliasF
  go_wp2_with fail
  go_at_fn 46
  refine (HC.out _ r30).mono ?_
  rintro e W32 ⟨ad32, c32, rfl, l32', r32, b32⟩
  have k32 := k30.trans b32
  have z32 := k32.size
  have l32 := l32'.mono (T := fun b => w.heap.size + 1 ≤ b) (fun b hb => by have := k30.size; omega)
  go_wp2_with fail
  go_at_call 64
  refine (node_any 62 ⟨#[]⟩ (some ⟨W32.heap.size, 0, none⟩) 1 1 _).mono ?_
  rintro e W33 ⟨rfl, b33'⟩
  have j33 : W33.heap[W32.heap.size]? = some (.cells #[Value.int IntKind.i64 x.k, Value.string x.t, Value.int IntKind.i64 x.n, Value.slice ad32 x.ks.length c32] 62 (0, 0)) := (b33'.block _ (by simp)).trans (heap_alloc_new W32 _)
  have r33 := (r32.bel ((Below.refl _ _).alloc (Nat.le_refl _) (Obj.cells #[Value.int IntKind.i64 x.k, Value.string x.t, Value.int IntKind.i64 x.n, Value.slice ad32 x.ks.length c32] 62))).bel b33'
  have b33 : KeptR P.R W32 W33 := (KeptR.of ((Below.refl _ _).alloc (Nat.le_refl _) _)).trans (.of b33')
  have k33 := k32.trans b33
  have z33 := k33.size
  have l33 : LAt W33 (fun b => w.heap.size + 1 ≤ b) (.slice (some ⟨W32.heap.size, 0, none⟩) 1 1) [x] := LAt.n1 j33 (by have := k32.size; show _ ≤ _; omega) (l32.keepR ((KeptR.refl P.R W32).trans b33) (by omega))
  have m0 := M0.out _ k33
  obtain ⟨⟨_, _, _, _⟩, _, _, _, _⟩ := t4 m0
  go_wp2
  refine bodyPost_ret (res_n4 Tryz.results44 (t4_set _ _ _ _ m0) rfl) rfl ?_
  exact close_ok (x := (mk0 62 ⟨#[]⟩ [x])) h (a0.trans k33) (l33.keepR (KeptR.refl P.R W33) (by omega)) (by omega) r33
end Go.Proofs.YtfehmdfamndcaaaGreatDoor
