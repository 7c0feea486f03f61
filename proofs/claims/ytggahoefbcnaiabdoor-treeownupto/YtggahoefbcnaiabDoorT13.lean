/- Own text. A tree put into a place: the document's answer. -/
import Derived.Test.YtggahoefbcnaiabDoorT13A
import Derived.Deep.DeepCutAuto
import Derived.Deep.LoopGhost
namespace Go.Proofs.YtggahoefbcnaiabDoor
open Go.RowKit
set_option linter.unusedVariables false
set_option linter.unusedSimpArgs false

set_option maxRecDepth 100000 in
set_option maxHeartbeats 16000000 in
theorem rrepl_any (m : Nd) (zm : m.size ≤ 4194304) (x : Nd) : ∀ (w : World) (S Sm : Nat → Prop) (v vm : Value) (i : Int), LAt w S v x.ks → LAt w Sm vm m.ks → x.size ≤ 4194304 → 0 ≤ i → i < x.size →
    Calls Tryd.prog 9 #[x.v v, .int .i64 i, m.v vm] w fun e w' => ∃ v', e = .returned ((x.repl i.toNat m).v v') ∧ LAt w' (fun b => w.heap.size ≤ b) v' (x.repl i.toNat m).ks ∧ Below w.heap.size w w' := by
  induction x using Nd.ind with
  | h x ih =>
    intro w S Sm v vm i hx hm zx hi0 hi1
    have hx' := hx
    obtain ⟨ax, cx, bx, ox, fx, rfl, px, qx, rx⟩ := hx.op
    obtain ⟨am, cm, rfl⟩ := hm.sl
    have zs := x.size_eq
    have lx := sizes_len x.ks
    have lx2 : x.ks.length ≤ 4194304 := by omega
    obtain ⟨i0, hi0', hz0, hz1, hz2⟩ := info_parts info_nd
    by_cases hz : i = 0
    · subst hz
      rw [show (0 : Int).toNat = 0 from rfl, Nd.repl_zero]
      exact rrepl_zero_any m x zm w Sm S ax am cx cm hx' hm
    · have hip : 0 < i.toNat := by omega
      rw [Nd.repl_pos x m hip]
      have RL : Hid ((repls x.ks (i.toNat - 1) m).length = x.ks.length) := repls_len _ _ _
      have RT := repls_take x.ks (i.toNat - 1) m
      generalize repls x.ks (i.toNat - 1) m = R at *
      have tot := take_sizes_le x.ks
      unfold Nd.v
      go_enter Tryd.func9, Tryd.ntmps9
      go_wp2
      obtain ⟨W0, hW0⟩ : ∃ W, ((((w.alloc (Obj.cells #[Value.int IntKind.i64 x.k, Value.string x.t, Value.int IntKind.i64 x.n, Value.slice ax x.ks.length cx] 24)).alloc (Obj.cells #[Value.int IntKind.i64 m.k, Value.string m.t, Value.int IntKind.i64 m.n, Value.slice am m.ks.length cm] 24)).alloc (Obj.cells #[Value.int IntKind.i64 0, Value.string { data := #[] }, Value.int IntKind.i64 0, Value.slice none 0 0] 24)).alloc (Obj.cells #[Value.int IntKind.i64 x.k, Value.string x.t, Value.int IntKind.i64 x.n, Value.slice none 0 0] 24)) = W := ⟨_, rfl⟩
      have st0 : Rst w x m ax am cx cm R W0 0 [] (.slice none 0 0) := by
        rw [← hW0]
        refine ⟨(((bel_a _ _).alloc (by simp) _).alloc (by simp <;> omega) _).alloc (by simp <;> omega) _, by simp, hold _ (by simp <;> omega) (hold _ (by simp <;> omega) (hold _ (by simp) (hnew _ rfl))), hold _ (by simp <;> omega) (hold _ (by simp) (hnew _ (by simp))), hold _ (by simp) (hnew _ (by simp)), hnew _ (by simp), Grow.nil _ _, by simp⟩
      rw [hW0]
      clear hW0
      have hzb : (i == 0) = false := by simpa using hz
      rw [hzb]
      go_loopg [8, 9] x.ks.length (fun gk at0 k0 wr => ∃ (k : Nat) (at' : Int) (L : List (Nd × Value)) (vl : Value), k0 = .int .i64 (k : Nat) ∧ at0 = .int .i64 at' ∧ Hid (at' = 1 + sizes (x.ks.take k)) ∧ Hid (gk + k = x.ks.length) ∧ Rst w x m ax am cx cm R wr k L vl)
      case atStart => exact ⟨0, 1, [], _, rfl, rfl, by simp [Hid, sizes_nil], by simp [Hid], st0⟩
      case round =>
        clear st0
        obtain ⟨k, at', L, vl, rfl, rfl, hat, hk, st⟩ := hrel
        have hkk : k ≤ x.ks.length := by have := hk.out; omega
        obtain ⟨⟨_, _, _, e0⟩, _⟩ := box4 st.m0
        by_cases hkl : k < x.ks.length
        · obtain ⟨rfl, hSx, hbx⟩ := px (by omega)
          have iha := ih x.ks[k] (List.getElem_mem hkl)
          have zk := x.kid_size hkl
          have HT : Hid (sizes (x.ks.take (k + 1)) = sizes (x.ks.take k) + x.ks[k].size) := take_sizes x.ks hkl
          have hle := tot (k + 1)
          rw [HT.out] at hle
          have RT' := fun y => RT k hkl (y := y)
          clear RT
          have hq4 := qx k hkl
          have hrk := rx k hkl
          obtain ⟨⟨u1, u2, u3, u4⟩, gx⟩ := kid_at hq4 hrk hbx st.bel
          generalize x.ks[k] = xk at *
          generalize fx k = fxk at *
          generalize sizes (x.ks.take k) = sk at *
          obtain ⟨ak, ck, rfl⟩ := gx.sl
          have cS := rsize_any xk wr S _ gx (by omega)
          have hw1 : IntKind.i64.wrap (at' + (xk.size : Int)) = at' + xk.size := by have := hat.out; rw [IntKind.wrap_i64]; omega
          clear tot ih qx rx
          go_upto_region 9 with (go_at_call 16; refine cS.mono ?_; rintro e W1 ⟨rfl, b1⟩)
          have st1 := st.go b1
          have sz1 := st1.sz
          have hm1 := hm.bel st1.bel.drew
          obtain ⟨⟨v1, v2, v3, v4⟩, gx1⟩ := kid_at hq4 hrk hbx st1.bel.drew
          clear u1 u2 u3 u4 gx cS e0 b1 hq4 hrk st px
          obtain ⟨⟨_, _, _, e0⟩, _⟩ := box4 st1.m0
          obtain ⟨⟨p0, p1, p2, p3⟩, _⟩ := box4 st1.m1
          obtain ⟨⟨_, _, _, d3⟩, ⟨_, _, _, f3⟩⟩ := box4 st1.m3
          have HSA : Hid ((at' ≤ i ∧ i < at' + (xk.size : Int)) → R.take (k + 1) = R.take k ++ [xk.repl (i - at').toNat m]) := fun h => RT' _ (by have := hat.out; rw [if_pos (by omega), show i.toNat - 1 - sk = (i - at').toNat by omega])
          have HSB : Hid (¬ (at' ≤ i ∧ i < at' + (xk.size : Int)) → R.take (k + 1) = R.take k ++ [xk]) := fun h => RT' _ (by have := hat.out; rw [if_neg (by omega)])
          clear RT'
          go_cut [44] from 22 to 73 (fun c wx => c = .bool (decide (at' ≤ i ∧ i < at' + (xk.size : Int))) ∧ wx = W1)
          case first =>
            by_cases hA : at' ≤ i
            · by_cases hB : i < at' + (xk.size : Int)
              · go_wp2
                go_meet
                exact ⟨congrArg Value.bool (decide_eq_true (p := at' ≤ i ∧ i < at' + (xk.size : Int)) ⟨hA, hB⟩).symm, rfl⟩
              · go_wp2
                go_meet
                exact ⟨congrArg Value.bool (decide_eq_false (p := at' ≤ i ∧ i < at' + (xk.size : Int)) (by omega)).symm, rfl⟩
            · go_wp2
              go_meet
              exact ⟨congrArg Value.bool (decide_eq_false (p := at' ≤ i ∧ i < at' + (xk.size : Int)) (by omega)).symm, rfl⟩
          obtain ⟨rfl, rfl⟩ := hcut
          go_upto_if 44 with fail
          go_cut [10] from 22 to 73 (fun s wx => s = .int .i64 (xk.size : Nat) ∧ ∃ L' vl', Rst w x m (some ⟨bx, ox, none⟩) am cx cm R wx (k + 1) L' vl')
          case first =>
            by_cases hAB : at' ≤ i ∧ i < at' + (xk.size : Int)
            · have HS : Hid (R.take (k + 1) = R.take k ++ [xk.repl (i - at').toNat m]) := HSA.out hAB
              have hd : decide (at' ≤ i ∧ i < at' + (xk.size : Int)) = true := decide_eq_true hAB
              have hw2 : IntKind.i64.wrap (i - at') = i - at' := by have := hat.out; rw [IntKind.wrap_i64]; omega
              have iha' := iha wc.drew S Sm _ _ (i - at') gx1 hm1 (by omega) (by omega) (by omega)
              clear iha HSA HSB hAB
              generalize xk.repl (i - at').toNat m = yk at *
              rw [hd]
              clear hd
              go_upto_region 10 with fail
              go_region_law (first
              | (refine step_call3 (by rfl) 9 _ _ _ _ (by rfl) (xk.v (.slice ak xk.ks.length ck)) (.int .i64 (i - at')) (m.v (.slice am m.ks.length cm)) (by rfl) (by rfl) (by rfl) (enters_of Tryd.func9 (by kernel_rfl) rfl) iha' ?_
                 rintro e W2 ⟨v1', rfl, l1, b2⟩
                 refine ⟨_, rfl, ?_⟩
                 obtain ⟨a1, c1, rfl⟩ := l1.sl
                 unfold Nd.v
                 obtain ⟨d3', d4', f3', hsz1, own1⟩ := st1.aft b2)
              | (refine step_append_lies _ (by rfl) _ _ _ (by rfl) (w.heap.size + 4) 24 i0 _ 4 56 Tryd.underlying22 hi0' hz0 hz1 hz2 rfl (by omega) _ k (rowN L) (by rfl) (own1.alloc _) ⟨W2.heap.size, 0, none⟩ 1 1 [.int .i64 yk.k, .string yk.t, .int .i64 yk.n, .slice a1 yk.ks.length c1] (by rfl) (by rfl) (World.news_of_block (cs := #[.int .i64 yk.k, .string yk.t, .int .i64 yk.n, .slice a1 yk.ks.length c1]) (t := 24) (fr := (0, 0)) (heap_alloc_new W2 _)) (by simp [Value.oneCell']) (by omega) (by unfold maxLen; omega) (by omega) (by simp; omega) (W2.heap.size + 1) (by simp) ?_
                 intro gg cap W3 hown3 hgrow hat3 hlt3
                 obtain ⟨k3, l3⟩ := st1.far3 hgrow (b2.alloc b2.size _)))
              all_goals
                go_wp2
                go_meet
                exact ⟨rfl, _, _, st1.push b2 l1 hgrow hat3 hown3 HS.out⟩
            · have HS : Hid (R.take (k + 1) = R.take k ++ [xk]) := HSB.out hAB
              have hd : decide (at' ≤ i ∧ i < at' + (xk.size : Int)) = false := decide_eq_false hAB
              have iha' := rcopy_any xk wc.drew S _ gx1 (by omega)
              clear iha HSA HSB hAB
              obtain ⟨yk, hyk⟩ : ∃ y, y = xk := ⟨_, rfl⟩
              rw [← hyk] at HS
              have iha' : Calls Tryd.prog 15 #[xk.v (.slice ak xk.ks.length ck)] wc.drew fun e w' => ∃ v', e = .returned (yk.v v') ∧ LAt w' (fun b => wc.drew.heap.size ≤ b) v' yk.ks ∧ Below wc.drew.heap.size wc.drew w' := by rw [hyk]; exact iha'
              clear hyk
              rw [hd]
              clear hd
              go_upto_region 11 with fail
              go_region_law (first
              | (refine step_call1 (by rfl) 15 _ _ (by rfl) (xk.v (.slice ak xk.ks.length ck)) (by rfl) (enters_of Tryd.func15 (by kernel_rfl) rfl) iha' ?_
                 rintro e W2 ⟨v1', rfl, l1, b2⟩
                 refine ⟨_, rfl, ?_⟩
                 obtain ⟨a1, c1, rfl⟩ := l1.sl
                 unfold Nd.v
                 obtain ⟨d3', d4', f3', hsz1, own1⟩ := st1.aft b2)
              | (refine step_append_lies _ (by rfl) _ _ _ (by rfl) (w.heap.size + 4) 24 i0 _ 4 56 Tryd.underlying22 hi0' hz0 hz1 hz2 rfl (by omega) _ k (rowN L) (by rfl) (own1.alloc _) ⟨W2.heap.size, 0, none⟩ 1 1 [.int .i64 yk.k, .string yk.t, .int .i64 yk.n, .slice a1 yk.ks.length c1] (by rfl) (by rfl) (World.news_of_block (cs := #[.int .i64 yk.k, .string yk.t, .int .i64 yk.n, .slice a1 yk.ks.length c1]) (t := 24) (fr := (0, 0)) (heap_alloc_new W2 _)) (by simp [Value.oneCell']) (by omega) (by unfold maxLen; omega) (by omega) (by simp; omega) (W2.heap.size + 1) (by simp) ?_
                 intro gg cap W3 hown3 hgrow hat3 hlt3
                 obtain ⟨k3, l3⟩ := st1.far3 hgrow (b2.alloc b2.size _)))
              all_goals
                go_wp2
                go_meet
                exact ⟨rfl, _, _, st1.push b2 l1 hgrow hat3 hown3 HS.out⟩
          case rest =>
            clear st1 iha hm1 v1 v2 v3 v4 gx1 e0 p0 p1 p2 p3 d3 f3 HSA HSB
            obtain ⟨rfl, L', vl', st'⟩ := hcut
            go_wp2
            have hat4 : Hid (at' + (xk.size : Int) = 1 + (sizes (x.ks.take (k + 1)) : Nat)) := by show _ = _; rw [HT.out, hat.out]; omega
            go_roundg (gk - 1)
            case rel => exact ⟨k + 1, _, _, _, by simp, rfl, hat4, by have := hk.out; show _ = _; omega, st'⟩
            case measure => have := hk.out; omega
        · have e : R.take k = R := List.take_of_length_le (by rw [RL.out]; omega)
          have hl := st.gr.lat (ks := R) (by rw [← e]; exact st.HL)
          have m2 := st.m2
          have bel := st.bel
          obtain ⟨⟨n0, n1, n2, n3⟩, ⟨g0, g1, g2, g3⟩⟩ := box4 st.m2
          obtain ⟨⟨d0, d1, d2, d3⟩, ⟨f0, f1, f2, f3⟩⟩ := box4 st.m3
          obtain ⟨a1, c1, rfl⟩ := hl.sl
          clear e st RT
          go_wp2
          refine bodyPost_ret (res_nd Tryd.results9 (box4_set _ _ _ _ m2) rfl) rfl ⟨_, rfl, (hl.keep (by simp [World.setCell]) (fun b hb hlt => ?_)).mono (fun b hb => by have h1 : w.heap.size + 4 ≤ b := hb; show w.heap.size ≤ b; omega), ?_⟩
          · have h1 : w.heap.size + 4 ≤ b := hb
            rw [Below.heap_setCell _ _ _ _ (by simp; omega), Below.heap_setCell _ _ _ _ (by simp; omega), Below.heap_setCell _ _ _ _ (by simp; omega), Below.heap_setCell _ _ _ _ (by simp; omega)]
          · exact (((bel.setCell (by simp <;> omega) _).setCell (by simp <;> omega) _).setCell (by simp <;> omega) _).setCell (by simp <;> omega) _
end Go.Proofs.YtggahoefbcnaiabDoor
