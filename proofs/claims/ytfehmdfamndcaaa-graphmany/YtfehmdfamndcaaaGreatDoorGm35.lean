/- Own text. Package module: a whole source, of items that are known. Package module: which method reads what begins here. Package module: what ends an item. -/
import Derived.Test.YtfehmdfamndcaaaGreatDoorGm34
import Derived.Test.YtfehmdfamndcaaaGreatDoorGm18
import Derived.Test.YtfehmdfamndcaaaGreatDoorGm33
namespace Go.Proofs.YtfehmdfamndcaaaGreatDoor
open Go.RowKit
set_option linter.unusedVariables false
set_option linter.unusedSimpArgs false

def tkT (x : Tk × Nat) : Tok := ⟨x.1.1, ⟨x.1.2.1.toArray⟩, x.1.2.2, (x.2 : Int)⟩
theorem rowT_get : ∀ (ts : List (Tk × Int)) (i : Nat) (h : i < ts.length), (rowT ts)[i * 4]? = some (.int .i64 ts[i].1.1) ∧ (rowT ts)[i * 4 + 1]? = some (.string ⟨ts[i].1.2.1.toArray⟩) ∧ (rowT ts)[i * 4 + 2]? = some (.int .i64 ts[i].1.2.2) ∧ (rowT ts)[i * 4 + 3]? = some (.int .i64 ts[i].2)
  | x :: F, 0, _ => by simp [rowT, tokCells]
  | x :: F, i + 1, h => by
    have := rowT_get F i (by simpa using h)
    have e : rowT (x :: F) = .int .i64 x.1.1 :: .string ⟨x.1.2.1.toArray⟩ :: .int .i64 x.1.2.2 :: .int .i64 x.2 :: rowT F := rfl
    rw [e, show (i + 1) * 4 = i * 4 + 1 + 1 + 1 + 1 by omega]
    simpa using this
theorem ints_len (ts : List (Tk × Nat)) : (ints ts).length = ts.length := by simp [ints]
theorem tkv_of {w : World} {base : Nat} {v : Value} {ts : List (Tk × Nat)} (h : ToksAt w base v (ints ts)) (hl : ts.length ≤ 4194304) (ht : ∀ x ∈ ts, x.1.2.1.length ≤ 4194304) : TkV w v (ts.map tkT) := by
  refine ⟨?_, by simpa using hl, fun x hx => ?_⟩
  · rcases h.2 with ⟨rfl, h0⟩ | ⟨g, cap, cur, rfl, hb, hg, hn, hm, hcs, htk⟩
    · have : ts = [] := List.length_eq_zero_iff.1 (by simpa [ints] using h0)
      subst this
      exact ⟨none, 0, 0, 0, rfl, fun h => by simp at h, ⟨fun h => by simp at h, fun i h => by simp at h⟩, by simp⟩
    · rw [ints_len] at *
      refine ⟨some ⟨g, 0, none⟩, cap, g, 0, by simp, fun _ => rfl, ⟨fun _ => (Array.getElem?_eq_some_iff.1 hg).1, fun i hi => ?_⟩, by simpa using hn⟩
      have hi' : i < ts.length := by simpa using hi
      have hf := rowT_get (ints ts) i (by rw [ints_len]; exact hi')
      rw [← htk] at hf
      have cell : ∀ j, j < ts.length * 4 → w.cell? ⟨g, 0 + j, none⟩ = cur.toList[j]? := fun j hj => by
        rw [cell_of_row w _ _ _ _ _ hg, Nat.zero_add, Array.getElem?_toList]
      have e : (ts.map tkT)[i] = tkT ts[i] := by simp
      have ei : (ints ts)[i]'(by rw [ints_len]; exact hi') = (ts[i].1, (ts[i].2 : Int)) := by simp [ints]
      rw [e]
      rw [ei] at hf
      obtain ⟨f0, f1, f2, f3⟩ := hf
      rw [List.getElem?_take_of_lt (by omega)] at f0 f1 f2 f3
      refine ⟨?_, ?_, ?_, ?_⟩
      · rw [cell _ (by omega)]; exact f0
      · rw [Nat.add_assoc, cell _ (by omega)]; exact f1
      · rw [Nat.add_assoc, cell _ (by omega)]; exact f2
      · rw [Nat.add_assoc, cell _ (by omega)]; exact f3
  · obtain ⟨y, hy, rfl⟩ := List.mem_map.1 hx
    have := ht y hy
    simpa [tkT, ByteArray.size] using this
/-- items one behind the other, up to the end. -/
inductive Its (F : Nat → Rs Nd) (n : Nat) : Nat → List Nd → Prop
  | nil : Its F n n []
  | cons {a b : Nat} {x : Nd} {xs : List Nd} (ha : a < n) (hab : a < b) (hx : F a = .ok x b) (h : Its F n b xs) : Its F n a (x :: xs)
theorem Its.le {F : Nat → Rs Nd} {n a : Nat} {xs : List Nd} (h : Its F n a xs) : a ≤ n := by
  cases h with
  | nil => exact Nat.le_refl _
  | cons ha hab hx h => omega
theorem TkV.bel {w w' : World} {v : Value} {L : List Tok} (h : TkV w v L) (b : Below w.heap.size w w') : TkV w' v L := by
  obtain ⟨⟨ta, tc, bl, of, e, h1, h2, h3⟩, h4, h5⟩ := h
  exact ⟨⟨ta, tc, bl, of, e, h1, h2.bel b, h3⟩, h4, h5⟩
theorem TkV.keep {w w' : World} {v : Value} {L : List Tok} {B : Nat} (h : TkV w v L) (hB : w.heap.size ≤ B) (hs : w.heap.size ≤ w'.heap.size) (b : ∀ j, j < w.heap.size → w'.heap[j]? = w.heap[j]?) : TkV w' v L := by
  obtain ⟨⟨ta, tc, bl, of, e, h1, h2, h3⟩, h4, h5⟩ := h
  refine ⟨⟨ta, tc, bl, of, e, h1, ⟨fun q => Nat.lt_of_lt_of_le (h2.lt q) hs, fun i hi => ?_⟩, h3⟩, h4, h5⟩
  have hl := h2.lt (by omega)
  obtain ⟨c0, c1, c2, c3⟩ := h2.c i hi
  exact ⟨(World.cell?_of_block (a := ⟨bl, _, none⟩) (b bl hl)).trans c0, (World.cell?_of_block (a := ⟨bl, _, none⟩) (b bl hl)).trans c1, (World.cell?_of_block (a := ⟨bl, _, none⟩) (b bl hl)).trans c2, (World.cell?_of_block (a := ⟨bl, _, none⟩) (b bl hl)).trans c3⟩
theorem res_whole {fn : Func} {p q r : Nat} (h : fn.results = #[.cell p 62, .tmp q, .tmp r]) {W : World} {n : Nat} {a b c d : Value} {t : TypeId} {tmps : Array Value} (hb : W.heap[n]? = some (.cells #[a, b, c, d] t (0, 0))) (ht : tmps[p]?.getD undef = .pointer (some ⟨n, 0, none⟩)) :
    (results fn tmps).run Tryz.prog W = .ok (.tuple #[.agg #[a, b, c, d], tmps[q]?.getD undef, tmps[r]?.getD undef]) W := by
  obtain ⟨⟨c0, c1, c2, c3⟩, _⟩ := t4 hb
  simp [results, h, go_sem, ht, c0, c1, c2, c3]
set_option maxRecDepth 100000 in
set_option maxHeartbeats 400000 in
theorem whole_f (s : ByteArray) (w : World) (he : Env w) (hs : s.size < 4294967281) {ts : List (Tk × Nat)} (hl : lexL 0 s.data.toList false = .ok ts) (htl : ts.length ≤ 4194304) (htx : ∀ x ∈ ts, x.1.2.1.length ≤ 4194304) (F : Nat → Rs Nd) {xs : List Nd} (hI : Its F ts.length 0 xs)
    (hR : ∀ a x b, F a = .ok x b → a < ts.length → ∀ W v, TkV W v (ts.map tkT) → Calls Tryz.prog 38 #[v, .int .i64 (a : Int), .func (.func 33) #[] #[]] W (AnsF W (faceR (.ok x b))))
    (hxl : xs.length ≤ 4194304) (hz : (Nd.mk 68 mtT 0 xs).size ≤ 4194304) (hd : deepB 100 (.mk 68 mtT 0 xs) = false) :
    Calls Tryz.prog 32 #[.string s, .int .i64 68, .func (.func 33) #[] #[]] w (AnsF w ⟨.mk 68 mtT 0 xs, 0, 0⟩) := by
  have HRd : Hid (∀ a x b, F a = .ok x b → a < ts.length → ∀ W v, TkV W v (ts.map tkT) → Calls Tryz.prog 38 #[v, .int .i64 (a : Int), .func (.func 33) #[] #[]] W (AnsF W (faceR (.ok x b)))) := hR
  clear hR
  have HI : Hid (Its F ts.length 0 xs) := hI
  have HD : Hid (deepB 100 (.mk 68 mtT 0 xs) = false) := hd
  have HZ : Hid ((Nd.mk 68 mtT 0 xs).size ≤ 4194304) := hz
  clear hI hd hz
  obtain ⟨i0, hi0, hz0, hz1, hz2⟩ := info_parts info_nd
  have HL : Hid (∀ W, Below w.heap.size w W → Calls Tryz.prog 37 #[.string s, .bool false] W fun e w' => (∃ v, e = .returned (.tuple #[v, .int .i64 0, .int .i64 0]) ∧ TkV w' v (ts.map tkT)) ∧ Below W.heap.size W w') := fun W b => by
    refine (lex_any s false W (env_below he b) hs).mono ?_
    rintro e W1 ⟨h1, h2⟩
    rw [hl] at h1
    obtain ⟨v, rfl, hv⟩ := h1
    exact ⟨⟨v, rfl, tkv_of hv htl htx⟩, h2⟩
  have HTM : Hid ((ts.map tkT).length = ts.length) := by show _ = _; simp
  generalize ts.map tkT = L at *
  clear hl htx he
  have b0 : Below w.heap.size w (w.alloc zN) := (Below.refl _ _).alloc (Nat.le_refl _) _
  have M0 : Hid (∀ W, Below (w.alloc zN).heap.size (w.alloc zN) W → W.heap[w.heap.size]? = some (.cells #[Value.int IntKind.i64 0, Value.string ⟨#[]⟩, Value.int IntKind.i64 0, Value.slice none 0 0] 62 (0, 0))) := fun W b => (b.block _ (by simp)).trans (heap_alloc_new w _)
  go_enter Tryz.func32, Tryz.ntmps32
  go_wp2_with fail
  go_at_call 37
  refine (HL.out _ b0).mono ?_
  rintro e W1 ⟨⟨v, rfl, hv⟩, b1⟩
  obtain ⟨ta, tc, bl, of, rfl, hta, htk, hcp⟩ := hv.h
  have s1 := b1.size
  simp only [World.size_alloc] at s1
  have m1 := M0.out _ b1
  have bw1 := b0.trans (b1.mono (by simp))
  obtain ⟨N, hN⟩ : ∃ N, W1.heap.size = N := ⟨_, rfl⟩
  go_wp2
  obtain ⟨W2, hW2⟩ : ∃ W, W1.alloc (Obj.cells #[Value.int IntKind.i64 68, Value.string ⟨#[]⟩, Value.int IntKind.i64 0, Value.slice none 0 0] 62) = W := ⟨_, rfl⟩
  have b2 : Below W1.heap.size W1 W2 := by rw [← hW2]; exact (Below.refl _ _).alloc (Nat.le_refl _) _
  have n2 : W2.heap[N]? = some (.cells #[Value.int IntKind.i64 68, Value.string ⟨#[]⟩, Value.int IntKind.i64 0, Value.slice none 0 0] 62 (0, 0)) := by rw [← hW2, ← hN]; exact heap_alloc_new _ _
  have s2 : N < W2.heap.size := (Array.getElem?_eq_some_iff.1 n2).1
  have bw2 := bw1.trans (b2.mono (by omega))
  have HV : Hid (∀ W, W1.heap.size ≤ W.heap.size → (∀ j, j < N → W.heap[j]? = W1.heap[j]?) → TkV W (.slice ta L.length tc) L ∧ W.heap[w.heap.size]? = some (.cells #[Value.int IntKind.i64 0, Value.string ⟨#[]⟩, Value.int IntKind.i64 0, Value.slice none 0 0] 62 (0, 0))) := fun W h1 h2 => ⟨hv.keep (Nat.le_refl _) h1 (fun j hj => h2 j (by omega)), (h2 _ (by omega)).trans m1⟩
  have k2 : ∀ j, j < N → W2.heap[j]? = W1.heap[j]? := fun j hj => b2.block j (by omega)
  have HN : Hid (W1.heap.size = N) := hN
  have hwN : w.heap.size < N := by omega
  rw [hW2]
  clear hW2 b2 hv m1 hN htk s1
  go_loopw [13] (fun v13 wr => ∃ (a : Nat) (dn rs : List Nd) (vl : Value) (Lc : List (Nd × Value)), v13 = .int .i64 (a : Nat) ∧ Hid (Its F ts.length a rs) ∧ Hid (dn ++ rs = xs) ∧ Below w.heap.size w wr ∧ N < wr.heap.size ∧ Hid (∀ j, j < N → wr.heap[j]? = W1.heap[j]?) ∧ wr.heap[N]? = some (.cells #[Value.int IntKind.i64 68, Value.string ⟨#[]⟩, Value.int IntKind.i64 0, vl] 62 (0, 0)) ∧ Grow (N + 1) wr vl Lc dn.length ∧ Hid (Lc.map (·.1) = dn) ∧ a ≤ ts.length) (fun v13 _ => ts.length - (intOf v13).toNat)
  case atStart => exact ⟨0, [], xs, _, [], rfl, HI.out, by simp [Hid], bw2, s2, k2, n2, Grow.nil _ _, by simp [Hid], Nat.zero_le _⟩
  case round =>
    clear n2 s2 bw2 k2 HI
    obtain ⟨a, dn, rs, vl, Lc, rfl, HI, HX, bel, sN, KB, n2, gr, HM, hal⟩ := hrel
    have own := gr.own
    obtain ⟨hv, m2⟩ := HV.out wr (by have := HN.out; omega) KB.out
    cases rs with
    | nil =>
      obtain rfl : a = ts.length := by have := HI.out; cases this; rfl
      obtain rfl : dn = xs := by have := HX.out; simpa using this
      have lx := gr.lat HM.out
      obtain ⟨al, cl, rfl⟩ := lx.sl
      obtain ⟨⟨e0, e1, e2, e3⟩, _, _, _, _⟩ := t4 n2
      obtain ⟨⟨_, _, _, _⟩, _, _, _, _⟩ := t4 m2
      have hlen : ¬ ((ts.length : Nat) : Int) < (L.length : Nat) := by have := HTM.out; omega
      have CD := deeper_any 100 (.mk 68 mtT 0 dn) wr _ _ (by omega) lx HZ.out
      rw [HD.out] at CD
      simp only [Nd.v, Nd.k, Nd.t, Nd.n, mtT] at CD
      have HB : Hid (∀ W, Below wr.heap.size wr W → W.heap[N]? = some (.cells #[Value.int IntKind.i64 68, Value.string ⟨#[]⟩, Value.int IntKind.i64 0, Value.slice al dn.length cl] 62 (0, 0)) ∧ W.heap[w.heap.size]? = some (.cells #[Value.int IntKind.i64 0, Value.string ⟨#[]⟩, Value.int IntKind.i64 0, Value.slice none 0 0] 62 (0, 0))) := fun W b => ⟨(b.block _ sN).trans n2, (b.block _ (by omega)).trans m2⟩
      clear gr own
      go_wp2_with fail
      go_at_call 40
      refine CD.mono ?_
      rintro e W3 ⟨rfl, b3⟩
      obtain ⟨n3, m3⟩ := HB.out _ b3
      have l3 := lx.bel b3
      clear e0 e1 e2 e3
      obtain ⟨⟨e0, e1, e2, e3⟩, _, _, _, _⟩ := t4 n3
      obtain ⟨⟨_, _, _, _⟩, _, _, _, _⟩ := t4 m3
      have bw3 := bel.trans (b3.mono bel.size)
      go_wp2
      refine bodyPost_ret (res_whole Tryz.results32 (t4_set _ _ _ _ m3) rfl) rfl ⟨al, cl, rfl, ?_, ?_⟩
      · exact (l3.mono (T := fun b => w.heap.size + 1 ≤ b) (fun b hb => by omega)).set4 (by omega) (by omega) _ _ _ _
      · exact (((bw3.setCell (Nat.le_refl _) _).setCell (Nat.le_refl _) _).setCell (Nat.le_refl _) _).setCell (Nat.le_refl _) _
    | cons x rs =>
      obtain ⟨b, ha, hab, hx, hI'⟩ : ∃ b, a < ts.length ∧ a < b ∧ F a = .ok x b ∧ Its F ts.length b rs := by have := HI.out; cases this with | cons ha hab hx h => exact ⟨_, ha, hab, hx, h⟩
      have hbl := hI'.le
      have HI' : Hid (Its F ts.length b rs) := hI'
      have CR := HRd.out a x b hx ha wr _ hv
      have hlen : ((a : Nat) : Int) < (L.length : Nat) := by have := HTM.out; omega
      have hdl2 : dn.length + 1 ≤ xs.length := by have := congrArg List.length HX.out; simp at this; omega
      have HX' : Hid ((dn ++ [x]) ++ rs = xs) := by show _ = _; rw [← HX.out]; simp
      clear hI' hx HI hv
      simp only [faceR] at CR
      obtain ⟨⟨e0, e1, e2, e3⟩, _, _, _, f3⟩ := t4 n2
      go_wp2_with fail
      go_at_call 38
      refine CR.mono ?_
      rintro e W3 ⟨ad, c, rfl, l3, b3⟩
      have n3 := (b3.block _ sN).trans n2
      have own3 := row_bel own b3
      have s3 := b3.size
      have b4 : Below W3.heap.size W3 (W3.alloc (Obj.cells #[Value.int IntKind.i64 x.k, Value.string x.t, Value.int IntKind.i64 x.n, Value.slice ad x.ks.length c] 62)) := (Below.refl _ _).alloc (Nat.le_refl _) _
      have n4 := (b4.block _ (by omega)).trans n3
      have far : Hid (∀ (o : Obj) (W6 : World), ((W3.alloc (Obj.cells #[Value.int IntKind.i64 x.k, Value.string x.t, Value.int IntKind.i64 x.n, Value.slice ad x.ks.length c] 62)).alloc o).grownBy W6 vl.ownBlock → W6.heap[N]? = some (.cells #[Value.int IntKind.i64 68, Value.string ⟨#[]⟩, Value.int IntKind.i64 0, vl] 62 (0, 0)) ∧ (∀ j, j < N → W6.heap[j]? = W1.heap[j]?) ∧ Below w.heap.size w W6 ∧ N < W6.heap.size) := fun o W6 hg => by
        have ne : ∀ j, j < N + 1 → some j ≠ vl.ownBlock := fun j hj e => by have := (row_lt own j e.symm).1; omega
        have bA : Below wr.heap.size wr ((W3.alloc (Obj.cells #[Value.int IntKind.i64 x.k, Value.string x.t, Value.int IntKind.i64 x.n, Value.slice ad x.ks.length c] 62)).alloc o) := (b3.alloc b3.size _).alloc (by simp; omega) o
        have gs := hg.size
        have aS := bA.size
        have bl := bel.size
        refine ⟨(hg.block _ (by omega) (ne _ (by omega))).trans ((bA.block _ sN).trans n2), fun j hj => (hg.block _ (by omega) (ne _ (by omega))).trans ((bA.block _ (by omega)).trans (KB.out j hj)), (bel.trans (bA.mono bl)).grown hg (by omega) (fun j e => by have := (row_lt own j e).1; omega), by omega⟩
      clear e0 e1 e2 e3 f3
      obtain ⟨⟨e0, e1, e2, e3⟩, _, _, _, f3⟩ := t4 n3
      obtain ⟨⟨e4, e5, e6, e7⟩, _, _, _, f7⟩ := t4 n4
      go_wp2_with (at_builtin; refine wpList_append_lies _ (by rfl) _ _ _ (by rfl) (N + 1) 62 i0 _ 4 56 Tryz.underlying60 hi0 hz0 hz1 hz2 rfl (by omega) _ dn.length (rowN Lc) (by rfl) ((own3.alloc _).alloc _) ⟨W3.heap.size + 1, 0, none⟩ 1 1 [Value.int IntKind.i64 x.k, Value.string x.t, Value.int IntKind.i64 x.n, Value.slice ad x.ks.length c] (by rfl) (by rfl) (World.news_of_block (cs := #[Value.int IntKind.i64 x.k, Value.string x.t, Value.int IntKind.i64 x.n, Value.slice ad x.ks.length c]) (t := 62) (fr := (0, 0)) (hnew _ (by simp))) (by simp [Value.oneCell']) (by omega) (by unfold maxLen; omega) (by omega) (by simp; omega) (W3.heap.size + 2) (by simp) ?_; intro gg cap W6 hown6 hgrow hat hlt6; obtain ⟨n6, k6, bw6, s6⟩ := far.out _ W6 hgrow; obtain ⟨⟨_, _, _, _⟩, _, _, _, _⟩ := t4 n6)
      have gr' := gr.push (by omega) (b3.trans (b4.mono b3.size)) (l3.bel b4) hgrow (by simpa using hat) hown6 (p := ⟨N, 3, none⟩) (by simp) (Value.slice (some { block := gg, off := 0 }) (dn.length + 1) cap)
      have HM' : Hid ((Lc ++ [(x, Value.slice ad x.ks.length c)]).map (·.1) = dn ++ [x]) := by show _ = _; rw [List.map_append, HM.out]; rfl
      have n7 := box4_set3 (Value.slice (some { block := gg, off := 0 }) (dn.length + 1) cap) n6
      have k7 : Hid (∀ j, j < N → (W6.setCell ⟨N, 3, none⟩ (Value.slice (some { block := gg, off := 0 }) (dn.length + 1) cap)).heap[j]? = W1.heap[j]?) := fun j hj => (Below.heap_setCell _ _ _ _ (by simp; omega)).trans (k6 j hj)
      have b7 := bw6.setCell (p := ⟨N, 3, none⟩) (by show _ ≤ N; omega) (Value.slice (some { block := gg, off := 0 }) (dn.length + 1) cap)
      go_roundw
      case rel => exact ⟨b, dn ++ [x], rs, _, _, by simp, HI', HX', b7, by simpa [World.setCell] using s6, k7, n7, by simpa using gr', HM', hbl⟩
      case measure => simp [intOf]; omega
end Go.Proofs.YtfehmdfamndcaaaGreatDoor
namespace Go.Proofs.YtfehmdfamndcaaaGreatDoor
open Go.RowKit
set_option linter.unusedVariables false
set_option linter.unusedSimpArgs false

def mdK (L : List Tok) (a : Nat) : FuncId := if isWd L a wClass = true then 42 else if isWd L a wImport = true then 43 else if isWd L a wExport = true then 44 else if opensM L a nType sAs = true then 46 else 47
def dcK (L : List Tok) (a : Nat) : Option FuncId := if isWd L a wLet = true then some 47 else if isWd L a wConst = true then some 47 else if isWd L a wFunc = true then some 47 else if isWd L a wClass = true then some 42 else if isNm L a nType = true then some 46 else none
set_option maxRecDepth 100000 in
set_option maxHeartbeats 2000000 in
theorem ofModule_any {w : World} {P : Pl} {L : List Tok} {a : Nat} (h : Rd w P L a mE) :
    Calls Tryz.prog 33 #[.pointer (some ⟨P.R, 0, none⟩)] w fun e w' => e = .returned (bound P (mdK L a)) ∧ Below w.heap.size w w' := by
  obtain ⟨res, hres⟩ : ∃ r, mdK L a = r := ⟨_, rfl⟩
  have HR : Hid (mdK L a = res) := hres
  rw [hres]
  clear hres
  go_enter Tryz.func33, Tryz.ntmps33
  have T0 := standsWord_any (h.bel (Below.refl w.heap.size w)) wClass
  cases q0 : isWd L a wClass with
  | true =>
    rw [q0] at T0
    go_wp2_with fail
    go_at_call 41
    refine T0.mono ?_
    rintro e W0 ⟨rfl, b0⟩
    have c0 := (Below.refl w.heap.size w).trans (b0.mono (Below.refl w.heap.size w).size)
    obtain rfl : 42 = res := by rw [← HR.out, mdK]; simp [q0]
    go_wp2
    go_ret
    exact ⟨rfl, c0⟩
  | false =>
    rw [q0] at T0
    go_wp2_with fail
    go_at_call 41
    refine T0.mono ?_
    rintro e W0 ⟨rfl, b0⟩
    have c0 := (Below.refl w.heap.size w).trans (b0.mono (Below.refl w.heap.size w).size)
    have T1 := standsWord_any (h.bel c0) wImport
    cases q1 : isWd L a wImport with
    | true =>
      rw [q1] at T1
      go_wp2_with fail
      go_at_call 41
      refine T1.mono ?_
      rintro e W1 ⟨rfl, b1⟩
      have c1 := c0.trans (b1.mono c0.size)
      obtain rfl : 43 = res := by rw [← HR.out, mdK]; simp [q0, q1]
      go_wp2
      go_ret
      exact ⟨rfl, c1⟩
    | false =>
      rw [q1] at T1
      go_wp2_with fail
      go_at_call 41
      refine T1.mono ?_
      rintro e W1 ⟨rfl, b1⟩
      have c1 := c0.trans (b1.mono c0.size)
      have T2 := standsWord_any (h.bel c1) wExport
      cases q2 : isWd L a wExport with
      | true =>
        rw [q2] at T2
        go_wp2_with fail
        go_at_call 41
        refine T2.mono ?_
        rintro e W2 ⟨rfl, b2⟩
        have c2 := c1.trans (b2.mono c1.size)
        obtain rfl : 44 = res := by rw [← HR.out, mdK]; simp [q0, q1, q2]
        go_wp2
        go_ret
        exact ⟨rfl, c2⟩
      | false =>
        rw [q2] at T2
        go_wp2_with fail
        go_at_call 41
        refine T2.mono ?_
        rintro e W2 ⟨rfl, b2⟩
        have c2 := c1.trans (b2.mono c1.size)
        have T3 := opens_any (h.bel c2) nType sAs
        cases q3 : opensM L a nType sAs with
        | true =>
          rw [q3] at T3
          go_wp2_with fail
          go_at_call 45
          refine T3.mono ?_
          rintro e W3 ⟨rfl, b3⟩
          have c3 := c2.trans (b3.mono c2.size)
          obtain rfl : 46 = res := by rw [← HR.out, mdK]; simp [q0, q1, q2, q3]
          go_wp2
          go_ret
          exact ⟨rfl, c3⟩
        | false =>
          rw [q3] at T3
          go_wp2_with fail
          go_at_call 45
          refine T3.mono ?_
          rintro e W3 ⟨rfl, b3⟩
          have c3 := c2.trans (b3.mono c2.size)
          obtain rfl : 47 = res := by rw [← HR.out, mdK]; simp [q0, q1, q2, q3]
          go_wp2
          go_ret
          exact ⟨rfl, c3⟩
set_option maxRecDepth 100000 in
set_option maxHeartbeats 2000000 in
theorem declared_any {w : World} {P : Pl} {L : List Tok} {a : Nat} (h : Rd w P L a mE) :
    Calls Tryz.prog 79 #[.pointer (some ⟨P.R, 0, none⟩)] w fun e w' => match dcK L a with
    | some k => e = .returned (bound P k) ∧ Below w.heap.size w w'
    | none => Gave a 60 e ∧ KeptR P.R w w' := by
  obtain ⟨res, hres⟩ : ∃ r, dcK L a = r := ⟨_, rfl⟩
  have HR : Hid (dcK L a = res) := hres
  rw [hres]
  clear hres
  go_enter Tryz.func79, Tryz.ntmps79
  have T0 := standsWord_any (h.bel (Below.refl w.heap.size w)) wLet
  cases q0 : isWd L a wLet with
  | true =>
    rw [q0] at T0
    go_wp2_with fail
    go_at_call 41
    refine T0.mono ?_
    rintro e W0 ⟨rfl, b0⟩
    have c0 := (Below.refl w.heap.size w).trans (b0.mono (Below.refl w.heap.size w).size)
    obtain rfl : some 47 = res := by rw [← HR.out, dcK]; simp [q0]
    go_wp2
    go_ret
    exact ⟨rfl, c0⟩
  | false =>
    rw [q0] at T0
    go_wp2_with fail
    go_at_call 41
    refine T0.mono ?_
    rintro e W0 ⟨rfl, b0⟩
    have c0 := (Below.refl w.heap.size w).trans (b0.mono (Below.refl w.heap.size w).size)
    have T1 := standsWord_any (h.bel c0) wConst
    cases q1 : isWd L a wConst with
    | true =>
      rw [q1] at T1
      go_wp2_with fail
      go_at_call 41
      refine T1.mono ?_
      rintro e W1 ⟨rfl, b1⟩
      have c1 := c0.trans (b1.mono c0.size)
      obtain rfl : some 47 = res := by rw [← HR.out, dcK]; simp [q0, q1]
      go_wp2
      go_ret
      exact ⟨rfl, c1⟩
    | false =>
      rw [q1] at T1
      go_wp2_with fail
      go_at_call 41
      refine T1.mono ?_
      rintro e W1 ⟨rfl, b1⟩
      have c1 := c0.trans (b1.mono c0.size)
      have T2 := standsWord_any (h.bel c1) wFunc
      cases q2 : isWd L a wFunc with
      | true =>
        rw [q2] at T2
        go_wp2_with fail
        go_at_call 41
        refine T2.mono ?_
        rintro e W2 ⟨rfl, b2⟩
        have c2 := c1.trans (b2.mono c1.size)
        obtain rfl : some 47 = res := by rw [← HR.out, dcK]; simp [q0, q1, q2]
        go_wp2
        go_ret
        exact ⟨rfl, c2⟩
      | false =>
        rw [q2] at T2
        go_wp2_with fail
        go_at_call 41
        refine T2.mono ?_
        rintro e W2 ⟨rfl, b2⟩
        have c2 := c1.trans (b2.mono c1.size)
        have T3 := standsWord_any (h.bel c2) wClass
        cases q3 : isWd L a wClass with
        | true =>
          rw [q3] at T3
          go_wp2_with fail
          go_at_call 41
          refine T3.mono ?_
          rintro e W3 ⟨rfl, b3⟩
          have c3 := c2.trans (b3.mono c2.size)
          obtain rfl : some 42 = res := by rw [← HR.out, dcK]; simp [q0, q1, q2, q3]
          go_wp2
          go_ret
          exact ⟨rfl, c3⟩
        | false =>
          rw [q3] at T3
          go_wp2_with fail
          go_at_call 41
          refine T3.mono ?_
          rintro e W3 ⟨rfl, b3⟩
          have c3 := c2.trans (b3.mono c2.size)
          have K4 := token_any (h.bel c3)
          have T4 : ∀ W, Calls Tryz.prog 76 #[(tokA L a).v, .string nType] W fun e w' => e = .returned (.bool (isNm L a nType)) ∧ Below W.heap.size W w' := fun W => isName_any (tokA L a) nType W
          go_wp2_with fail
          go_at_call 58
          refine K4.mono ?_
          rintro e X4 ⟨rfl, y4⟩
          have d4 := c3.trans (y4.mono c3.size)
          cases q4 : isNm L a nType with
          | true =>
            rw [q4] at T4
            go_wp2_with fail
            go_at_call 76
            refine (T4 _).mono ?_
            rintro e W4 ⟨rfl, b4⟩
            have c4 := d4.trans (b4.mono d4.size)
            obtain rfl : some 46 = res := by rw [← HR.out, dcK]; simp [q0, q1, q2, q3, q4]
            go_wp2
            go_ret
            exact ⟨rfl, c4⟩
          | false =>
            rw [q4] at T4
            go_wp2_with fail
            go_at_call 76
            refine (T4 _).mono ?_
            rintro e W4 ⟨rfl, b4⟩
            have c4 := d4.trans (b4.mono d4.size)
            obtain rfl : none = res := by rw [← HR.out, dcK]; simp [q0, q1, q2, q3, q4]
            go_wp2_with fail
            go_at_call 91
            refine (wrong_any (h.bel c4)).mono ?_
            rintro e WZ ⟨rfl, bZ⟩
            go_wp2
            exact ⟨rfl, rfl, (KeptR.of c4).trans (.of bZ)⟩
end Go.Proofs.YtfehmdfamndcaaaGreatDoor
namespace Go.Proofs.YtfehmdfamndcaaaGreatDoor
open Go.RowKit
set_option linter.unusedVariables false
set_option linter.unusedSimpArgs false

set_option maxRecDepth 100000 in
set_option maxHeartbeats 8000000 in
theorem endedm_any {w : World} {P : Pl} {L : List Tok} {a : Nat} {o : Ex} (h : Rd w P L a o) (k : Int) (t : ByteArray) (n : Int) (ad : Option Addr) (ln cp : Nat) :
    Calls Tryz.prog 70 #[.pointer (some ⟨P.R, 0, none⟩), .agg #[.int .i64 k, .string t, .int .i64 n, .slice ad ln cp]] w (AnsW P L o (.agg #[.int .i64 k, .string t, .int .i64 n, .slice ad ln cp]) w (wantR L sSe a)) := by
  have hRw := h.lt
  have hbl0 := h.x.lt
  obtain ⟨wA, hwA⟩ : ∃ W, w.alloc (.cells #[.int .i64 k, .string t, .int .i64 n, .slice ad ln cp] 62) = W := ⟨_, rfl⟩
  have bA : Below w.heap.size w wA := by rw [← hwA]; exact (Below.refl _ _).alloc (Nat.le_refl _) _
  have sA : wA.heap.size = w.heap.size + 1 := by rw [← hwA]; simp
  have mA : wA.heap[w.heap.size]? = some (.cells #[.int .i64 k, .string t, .int .i64 n, .slice ad ln cp] 62 (0, 0)) := by rw [← hwA]; exact hnew _ rfl
  obtain ⟨h0, a0, z0, M0⟩ := begin_cell (h.bel bA)
  have C1 := want_any h0 sSe
  generalize wantR L sSe a = rr at *
  go_enter Tryz.func70, Tryz.ntmps70
  go_wp2_with fail
  go_at_call 61
  refine C1.mono ?_
  rintro e W1 A1
  cases rr with
  | bad p er =>
    obtain ⟨rfl, b1⟩ := A1
    exact ⟨rfl, rfl, ((KeptR.of bA).trans a0).trans b1⟩
  | ok u a1 =>
    obtain ⟨rfl, r1, b1⟩ := A1
    have m0 := M0.out _ b1
    rw [sA] at m0
    have v0 : W1.heap[w.heap.size]? = some (.cells #[.int .i64 k, .string t, .int .i64 n, .slice ad ln cp] 62 (0, 0)) := (b1.block _ (by omega) (by omega)).trans ((a0.block _ (by omega) (by omega)).trans mA)
    obtain ⟨⟨_, _, _, _⟩, _, _, _, _⟩ := t4 m0
    obtain ⟨⟨_, _, _, _⟩, _, _, _, _⟩ := t4 v0
    have kf : KeptR P.R w W1 := ((KeptR.of bA).trans a0).trans b1
    have hbl : 0 < L.length → P.bl ≠ w.heap.size + 1 := fun q => by have := hbl0 q; omega
    go_wp2
    refine bodyPost_ret (res_n4 Tryz.results70 (t4_set _ _ _ _ m0) rfl) rfl ?_
    exact ⟨rfl, r1.set4 (by omega) hbl _ _ _ _, (((kf.new (by omega) _ _).new (by omega) _ _).new (by omega) _ _).new (by omega) _ _⟩
end Go.Proofs.YtfehmdfamndcaaaGreatDoor
