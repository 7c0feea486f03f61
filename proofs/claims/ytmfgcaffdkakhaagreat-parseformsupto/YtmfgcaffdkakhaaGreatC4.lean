/- Own text. Package cursor: blocks of statements, names that may not stand twice. -/
import Derived.Test.YtmfgcaffdkakhaaGreatC3
import Derived.Maps.Ext
namespace Go.Proofs.YtmfgcaffdkakhaaGreat
open Go.RowKit Go.Maps
set_option linter.unusedVariables false
set_option linter.unusedSimpArgs false

set_option maxRecDepth 100000 in
set_option maxHeartbeats 8000000 in
theorem block_any {P : Pl} {L : List Tok} {o : Ex} {k : FuncId} {rs caps : Array Value} (eg : ∀ args w, (callFunc k args).run Tryz.prog w = .ok (.enter k args) w) (F : Nat → Rs Nd) (w : World) (a : Nat) (h : Rd w P L a o)
    (hmono : ∀ a x b, F a = .ok x b → a < b)
    (hT : ∀ W b, a < b → Rd W P L b o → Calls Tryz.prog k (rs ++ caps) W (AnsN P L o W (F b))) :
    Calls Tryz.prog 96 #[.pointer (some ⟨P.R, 0, none⟩), .func (.func k) rs caps] w (AnsN P L o w (blockG L F a)) := by
  have hRw := h.lt
  obtain ⟨h0, a0, z0, M0⟩ := begin_cell h
  have CW := want_any h0 sCb
  unfold blockG
  cases hq : isS L a sCb with
  | false =>
    rw [wantR_no hq] at *
    rw [Rs.bind_bad]
    unfold AnsN
    unfold AnsU sCb at CW
    go_enter Tryz.func96, Tryz.ntmps96
    go_wp2_with (go_at_call 60; refine CW.mono ?_; rintro e W1 ⟨rfl, b1⟩)
    exact ⟨rfl, rfl, a0.trans b1⟩
  | true =>
    rw [wantR_yes hq] at *
    rw [Rs.bind_ok]
    unfold AnsU sCb at CW
    have hla := isS_lt hq
    clear hq
    have hsm := h.small
    have hbl0 := h.x.lt
    obtain ⟨res, hres⟩ : ∃ res, stmtsG L F (L.length + 1 - (a + 1)) [] (a + 1) = res := ⟨_, rfl⟩
    rw [hres]
    have HRes : Hid (res = stmtsG L F (L.length + 1 - (a + 1)) [] (a + 1)) := hres.symm
    clear hres
    obtain ⟨i0, hi0, hz0, hz1, hz2⟩ := info_parts info_nd
    have HM : Hid (∀ a x b, F a = .ok x b → a < b) := hmono
    have HT : Hid (∀ W b, a < b → Rd W P L b o → Calls Tryz.prog k (rs ++ caps) W (AnsN P L o W (F b))) := hT
    clear hmono hT
    go_enter Tryz.func96, Tryz.ntmps96
    go_wp2_with (go_at_call 60; refine CW.mono ?_; rintro e W0 ⟨rfl, r00, b00⟩)
    have s00 := b00.size
    go_loopg [5] (L.length + 1 - (a + 1)) (fun gk v7 wr => ∃ (b : Nat) (Lc : List (Nd × Value)), Hid (res = stmtsG L F gk (Lc.map (·.1)) b) ∧ Hid (L.length + 1 ≤ gk + b) ∧ Rd wr P L b o ∧ Grow (w.heap.size + 1) wr v7 Lc Lc.length ∧ Kept2 P.R P.R (w.alloc zN) wr ∧ Hid (a + 1 + Lc.length ≤ b))
    case atStart => exact ⟨a + 1, [], HRes, by show _ ≤ _; omega, r00, Grow.nil _ _, .of b00, by show _ ≤ _; simp⟩
    case round =>
      clear HRes r00 b00 CW
      obtain ⟨b, Lc, HR, HG, r0, g0, k0, hb⟩ := hrel
      have hsz := k0.size
      have hb' := hb.out
      have hgk := HG.out
      have hbL := r0.le
      have CT := take_any r0 sCc
      have B1 : Hid (∀ W, KeptR P.R wr W → Kept2 P.R P.R (w.alloc zN) W ∧ Grow (w.heap.size + 1) W u5 Lc Lc.length) := fun W b1 => ⟨k0.trans (.of b1), g0.keepB b1.size (fun j h1 h2 => b1.block j h2 (by omega))⟩
      cases hq : isS L b sCc with
      | true =>
        rw [hq] at CT
        unfold sCc at CT
        have hres : res = .ok (Lc.map (·.1)) (b + 1) := by rw [HR.out]; exact stmtsG_end (by omega) hq
        clear HR
        have HA : Hid (∀ e W, AnsN P L o w (.ok (mk0 52 mtT (Lc.map (·.1))) (b + 1)) e W → AnsN P L o w (res.bind fun l a2 => .ok (mk0 52 mtT l) a2) e W) := fun e W q => by rw [hres]; exact q
        clear hres
        obtain ⟨ks, hks⟩ : ∃ ks, Lc.map (·.1) = ks := ⟨_, rfl⟩
        rw [hks] at HA
        have HK : Hid (Lc.map (·.1) = ks) := hks
        have hl0 := g0.lat hks
        clear hks
        obtain ⟨ad, c, hv⟩ := hl0.sl
        subst hv
        have CN := fun W => node_any 52 ⟨#[]⟩ ad ks.length c W
        go_wp2_with (first
          | (go_at_call 33; refine CT.mono ?_; rintro e W1 ⟨rfl, r1, b1⟩; obtain ⟨k1, g1⟩ := B1.out _ b1; have s1 := b1.size)
          | (go_at_call 35; refine (CN _).mono ?_; rintro e W2 ⟨rfl, b2⟩; have m2 := M0.out _ (k1.one.trans (.of b2)); obtain ⟨⟨_, _, _, _⟩, _, _, _, _⟩ := t4 m2))
        refine bodyPost_ret (res_n4 Tryz.results96 (t4_set _ _ _ _ m2) rfl) rfl ?_
        exact HA.out _ _ (close_ok (x := mk0 52 mtT ks) h ((a0.trans k1.one).trans (.of b2)) ((g1.bel b2).lat HK.out) (by omega) (r1.bel b2))
      | false =>
        rw [hq] at CT
        unfold sCc at CT
        cases hF : F b with
        | bad p er =>
          have hres : res = .bad p er := by rw [HR.out]; exact stmtsG_bad (by omega) hq hF
          clear HR
          have HA : Hid (∀ e W, AnsN P L o w (.bad p er) e W → AnsN P L o w (res.bind fun l a2 => .ok (mk0 52 mtT l) a2) e W) := fun e W q => by rw [hres]; exact q
          clear hres
          go_wp2_with (first
            | (go_at_call 33; refine CT.mono ?_; rintro e W1 ⟨rfl, r1, b1⟩; obtain ⟨k1, g1⟩ := B1.out _ b1; have s1 := b1.size)
            | (go_at_fn k; refine (HT.out W1 b (by omega) r1).mono ?_; rintro e W2 hA; rw [hF] at hA; obtain ⟨rfl, b2⟩ := hA))
          exact ⟨rfl, HA.out _ _ ⟨rfl, (a0.trans k1.one).trans b2⟩⟩
        | ok x a1 =>
          have HR3 : Hid (res = stmtsG L F (gk - 1) ((Lc ++ [(x, (default : Value))]).map (·.1)) a1) := by
            show _ = _
            rw [HR.out, stmtsG_ok (by omega) hq hF]; simp
          clear HR
          have hab := HM.out _ _ _ hF
          go_wp2_with (first
            | (go_at_call 33; refine CT.mono ?_; rintro e W1 ⟨rfl, r1, b1⟩; obtain ⟨k1, g1⟩ := B1.out _ b1; have s1 := b1.size)
            | (go_at_fn k; refine (HT.out W1 b (by omega) r1).mono ?_; rintro e W2 hA; rw [hF] at hA; obtain ⟨ad, c, rfl, l2, r2, b2⟩ := hA; have k2 := k1.trans (.of b2); have s2 := k2.size; have g2 := g1.keepB b2.size (fun j h1 h2 => b2.block j h2 (by omega)))
            | (at_builtin; refine wpList_append_lies _ (by rfl) _ _ _ (by rfl) (w.heap.size + 1) 27 i0 _ 4 56 Tryz.underlying25 hi0 hz0 hz1 hz2 rfl (by omega) _ Lc.length (rowN Lc) (by rfl) (row_bel g2.own ((Below.refl _ _).alloc (Nat.le_refl _) _)) ⟨W2.heap.size, 0, none⟩ 1 1 [.int .i64 x.k, .string x.t, .int .i64 x.n, .slice ad x.ks.length c] (by rfl) (by rfl) (World.news_of_block (cs := #[.int .i64 x.k, .string x.t, .int .i64 x.n, .slice ad x.ks.length c]) (t := 27) (fr := (0, 0)) (heap_alloc_new W2 _)) (by simp [Value.oneCell']) (by omega) (by unfold maxLen; omega) (by omega) (by simp; omega) (W2.heap.size + 1) (by simp) ?_; intro gg cap W3 hown3 hgrow hat hlt3; have g3 := g1.push' (by omega) b2.size (fun j h1 h2 => b2.block j h2 (by omega)) l2 hgrow hat hown3; have k3 : Kept2 P.R P.R (w.alloc zN) W3 := kept_push k2 hgrow (fun g e => by rw [z0]; exact (row_lt g2.own g e).1); have r3 := rd_push r2 hgrow (fun g e => (row_lt g2.own g e).1) (by omega) (fun q => by have := hbl0 q; omega)))
          go_roundg (gk - 1)
          case rel => exact ⟨a1, Lc ++ [(x, Value.slice ad x.ks.length c)], by show _ = _; rw [HR3.out, List.map_append, List.map_append]; rfl, by show _ ≤ _; omega, r3, by simpa using g3, k3, by show _ ≤ _; simp; omega⟩
          case measure => omega
end Go.Proofs.YtmfgcaffdkakhaaGreat
