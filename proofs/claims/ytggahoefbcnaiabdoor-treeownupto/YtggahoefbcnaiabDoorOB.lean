/- Own text. Copies, parts and replaced trees are new memory: what the law's walk calls. Copies, parts and replaced trees are new memory: the law's own walk. Copies, parts and replaced trees are new memory: the law's own walk. Copies, parts and replaced trees are new memory: the law's own walk, both ways. -/
import Derived.Test.YtggahoefbcnaiabDoorO4
import Derived.Test.YtggahoefbcnaiabDoorO5
import Derived.Test.YtggahoefbcnaiabDoorT13
import Derived.Test.YtggahoefbcnaiabDoorT16
import Derived.Deep.DeepCutAuto
import Derived.Deep.RegionHeld3
namespace Go.Proofs.YtggahoefbcnaiabDoor.Own
open Go.RowKit
set_option linter.unusedVariables false
set_option linter.unusedSimpArgs false

theorem bx_but {W W' : World} {p : Nat} {x : Nd} {a : Option Addr} {c : Nat} {S : Nat → Prop} (h : Bx W p x a c) (b : But S W W') (hp : ¬ S p) : Bx W' p x a c := ⟨(b.block p h.lt hp).trans h.h⟩
theorem lat_but {W W' : World} {v : Value} {ks : List Nd} {S T : Nat → Prop} (h : LAt W T v ks) (b : But S W W') (hd : ∀ j, T j → ¬ S j) : LAt W' T v ks := h.keep b.size (fun j hj hl => b.block j hl (hd j hj))
/-- what At answers, in one form for both ways. -/
theorem at_both (x : Nd) (i : Int) (w : World) (S : Nat → Prop) (v : Value) (hx : LAt w S v x.ks) (zx : x.size ≤ 4194304) (tx : x.tx) (y : Nd) (ok : Bool)
    (hy : (0 ≤ i ∧ x.flat[i.toNat]? = some y ∧ ok = true) ∨ ((i < 0 ∨ (x.size : Int) ≤ i) ∧ y = zN ∧ ok = false)) :
    Calls Tryd.prog 6 #[x.v v, .int .i64 i] w fun e w' => ∃ a c, e = .returned (.tuple #[.agg #[Value.int IntKind.i64 y.k, Value.string y.t, Value.int IntKind.i64 y.n, Value.slice a y.ks.length c], .bool ok]) ∧ Sep w' (fun b => w.heap.size ≤ b ∧ b < w'.heap.size) (.slice a y.ks.length c) y.ks ∧ Below w.heap.size w w' := by
  refine (at_any x w S v i hx zx tx).mono ?_
  rintro e w' ⟨bel, ⟨y', v', h0, h1, rfl, l⟩ | ⟨h, rfl⟩⟩
  · rcases hy with ⟨_, h2, rfl⟩ | ⟨h, _⟩
    · rw [h1] at h2
      obtain rfl := Option.some.inj h2
      obtain ⟨a, c, rfl⟩ := l.sl
      exact ⟨a, c, rfl, l, bel⟩
    · have := (List.getElem?_eq_some_iff.1 h1).1
      have := x.flat_len
      omega
  · rcases hy with ⟨h0, h1, _⟩ | ⟨_, rfl, rfl⟩
    · have := (List.getElem?_eq_some_iff.1 h1).1
      have := x.flat_len
      omega
    · exact ⟨none, 0, rfl, .nil _, bel⟩
theorem replace_bothS (x m : Nd) (i : Int) (w : World) (S Sm : Nat → Prop) (v vm : Value) (hx : LAt w S v x.ks) (zx : x.size ≤ 4194304) (tx : x.tx) (hm : LAt w Sm vm m.ks) (zm : m.size ≤ 4194304) (tm : m.tx) (z : Nd) (ok : Bool)
    (hz : (0 ≤ i ∧ i < x.size ∧ z = x.repl i.toNat m ∧ ok = true) ∨ ((i < 0 ∨ (x.size : Int) ≤ i) ∧ z = zN ∧ ok = false)) :
    Calls Tryd.prog 7 #[x.v v, .int .i64 i, m.v vm] w fun e w' => ∃ a c, e = .returned (.tuple #[.agg #[Value.int IntKind.i64 z.k, Value.string z.t, Value.int IntKind.i64 z.n, Value.slice a z.ks.length c], .bool ok]) ∧ Sep w' (fun b => w.heap.size ≤ b ∧ b < w'.heap.size) (.slice a z.ks.length c) z.ks ∧ Below w.heap.size w w' := by
  refine (replace_any x m w S Sm v vm i hx zx tx hm zm tm).mono ?_
  rintro e w' ⟨bel, ⟨v', h0, h1, rfl, l⟩ | ⟨h, rfl⟩⟩
  · rcases hz with ⟨_, _, rfl, rfl⟩ | ⟨h, _⟩
    · obtain ⟨a, c, rfl⟩ := l.sl
      exact ⟨a, c, rfl, l, bel⟩
    · omega
  · rcases hz with ⟨h0, h1, _⟩ | ⟨_, rfl, rfl⟩
    · omega
    · exact ⟨none, 0, rfl, .nil _, bel⟩
theorem flat_inS (x : Nd) (w : World) (S : Nat → Prop) (v : Value) (k : Nat) (hk : k < x.flat.length) (hx : LAt w S v x.ks) (zx : x.size ≤ 4194304) :
    Calls Tryd.prog 10 #[x.v v, .slice none 0 0] w fun e w' => ∃ bl c a' c', e = .returned (.slice (some ⟨bl, 0, none⟩) x.flat.length c) ∧ Four w' bl (k * 4) x.flat[k] (.slice a' x.flat[k].ks.length c') ∧ LAt w' S (.slice a' x.flat[k].ks.length c') x.flat[k].ks ∧ Below w.heap.size w w' := by
  have h := flat_any x w (fun b => S b ∧ b < w.heap.size) v (.slice none 0 0) [] w.heap.size 0 (hx.mono' (fun b hb hS => ⟨hS, hb⟩)) (fun b hb => hb.2) (Nat.le_refl _) (World.ownsRow_nil ..) (by omega)
  refine h.mono ?_
  rintro e w' ⟨vl', M, rfl, own, hM, hk', gr, hat⟩
  have bel : Below w.heap.size w w' := (Below.refl _ w).grown gr (Nat.le_refl _) (fun j hj => by cases hj)
  have hlen : M.length = x.flat.length := by rw [← hM]; simp
  have hsz : x.flat.length = x.size := x.flat_len
  rw [List.nil_append, Nat.zero_add, ← hsz, ← hlen] at own
  have hkM : k < M.length := by omega
  have hMk : M[k].1 = x.flat[k] := by
    have : (M.map (·.1))[k]? = some x.flat[k] := by rw [hM]; exact List.getElem?_eq_getElem hk
    simpa [List.getElem?_eq_getElem hkM] using this
  have lk := ((hk' M[k] (List.getElem_mem hkM)).mono (fun b hb => hb.1)).bel bel
  rw [hMk] at lk
  obtain ⟨a', c', e2⟩ := lk.sl
  rcases own.2 with ⟨_, h0⟩ | ⟨g, cap, cur, rfl, hb, hg, _, _, hcs, htk⟩
  · omega
  · refine ⟨g, cap, a', c', by rw [hlen], ?_, by rw [← e2]; exact lk, bel⟩
    have hf := rowN_get M k hkM
    rw [← htk] at hf
    have g1 : ∀ j, j < M.length * 4 → (cur.toList.take (M.length * 4))[j]? = cur[j]? := fun j hj => by rw [List.getElem?_take_of_lt hj]; simp
    rw [g1 _ (by omega), g1 _ (by omega), g1 _ (by omega), g1 _ (by omega), hMk, e2] at hf
    have cc : ∀ j, w'.cell? ⟨g, j, none⟩ = cur[j]? := fun j => cell_of_row w' g _ _ _ _ hg
    exact ⟨(cc _).trans hf.1, (cc _).trans hf.2.1, (cc _).trans hf.2.2.1, (cc _).trans hf.2.2.2⟩
end Go.Proofs.YtggahoefbcnaiabDoor.Own
namespace Go.Proofs.YtggahoefbcnaiabDoor.Own
open Go.RowKit
set_option linter.unusedVariables false
set_option linter.unusedSimpArgs false

set_option maxRecDepth 100000 in
set_option maxHeartbeats 16000000 in
theorem walk_in (x : Nd) (vx : Value) (k : Nat) (w : World) (hx : LAt w (fun b => b < w.heap.size) vx x.ks) (zx : x.size ≤ 1048576) (tx : ∀ z ∈ x.flat, z.t.size ≤ 1048576) (he : WEnv w) (hk : k < x.flat.length) :
    Calls Tryd.prog 3 #[x.v vx, .int .i64 (k : Int)] w fun e w' => e = .returned (.bool true) ∧ Below w.heap.size w w' := by
  have tx' : x.tx := fun z hz => Nat.le_trans (tx z hz) (by decide)
  obtain ⟨ax, cx, rfl⟩ := hx.sl
  have zx4 : x.size ≤ 4194304 := by omega
  have fl := x.flat_len
  have s5 : (numN 5).size = 1 := size_num 5
  have t5 : (numN 5).tx := tx_num 5
  obtain ⟨y, hy⟩ : ∃ y, x.flat[k] = y := ⟨_, rfl⟩
  have hmem := List.getElem_mem hk
  have yz0 : x.flat[k].size ≤ x.size := (flat_sub x _ hmem).1
  have hy? : x.flat[k]? = some y := by rw [← hy]; exact List.getElem?_eq_getElem hk
  obtain ⟨z, hz⟩ : ∃ z, x.repl k (numN 5) = z := ⟨_, rfl⟩
  have hzs := ((x.back_all k y hy?).2 (numN 5)).1
  rw [hz] at hzs
  rw [hy] at yz0
  have yz : y.size ≤ 4194304 := by omega
  have zz : z.size ≤ 4194304 := by omega
  have HY : (0 ≤ (k : Int) ∧ x.flat[(k : Int).toNat]? = some y ∧ true = true) ∨ (((k : Int) < 0 ∨ (x.size : Int) ≤ (k : Int)) ∧ y = zN ∧ true = false) := Or.inl ⟨by omega, by rw [Int.toNat_natCast]; exact hy?, rfl⟩
  have HZ : (0 ≤ (k : Int) ∧ (k : Int) < x.size ∧ z = x.repl (k : Int).toNat (numN 5) ∧ true = true) ∨ (((k : Int) < 0 ∨ (x.size : Int) ≤ (k : Int)) ∧ z = zN ∧ true = false) := Or.inl ⟨by omega, by omega, by rw [Int.toNat_natCast]; exact hz.symm, rfl⟩
  have CC : Hid (∀ W, Below w.heap.size w W → Calls Tryd.prog 4 #[.agg #[Value.int IntKind.i64 x.k, Value.string x.t, Value.int IntKind.i64 x.n, Value.slice ax x.ks.length cx]] W fun e w' => ∃ a c, e = .returned (.agg #[Value.int IntKind.i64 x.k, Value.string x.t, Value.int IntKind.i64 x.n, Value.slice a x.ks.length c]) ∧ Sep w' (fun b => W.heap.size ≤ b ∧ b < w'.heap.size) (.slice a x.ks.length c) x.ks ∧ Below W.heap.size W w') := fun W b => (copy_any x W _ _ (hx.bel b) zx4 tx').mono (by rintro e w' ⟨v, rfl, l, bb⟩; obtain ⟨a, c, rfl⟩ := l.sl; exact ⟨a, c, rfl, l, bb⟩)
  have CA : Hid (∀ W, Below w.heap.size w W → Calls Tryd.prog 6 #[.agg #[Value.int IntKind.i64 x.k, Value.string x.t, Value.int IntKind.i64 x.n, Value.slice ax x.ks.length cx], .int .i64 (k : Int)] W fun e w' => ∃ a c, e = .returned (.tuple #[.agg #[Value.int IntKind.i64 y.k, Value.string y.t, Value.int IntKind.i64 y.n, Value.slice a y.ks.length c], .bool true]) ∧ Sep w' (fun b => W.heap.size ≤ b ∧ b < w'.heap.size) (.slice a y.ks.length c) y.ks ∧ Below W.heap.size W w') := fun W b => at_both x (k : Int) W _ _ (hx.bel b) zx4 tx' y true HY
  have CR : Hid (∀ W, Below w.heap.size w W → Calls Tryd.prog 7 #[.agg #[Value.int IntKind.i64 x.k, Value.string x.t, Value.int IntKind.i64 x.n, Value.slice ax x.ks.length cx], .int .i64 (k : Int), (.agg #[.int .i64 1, .string ⟨#[]⟩, .int .i64 5, .slice none 0 0])] W fun e w' => ∃ a c, e = .returned (.tuple #[.agg #[Value.int IntKind.i64 z.k, Value.string z.t, Value.int IntKind.i64 z.n, Value.slice a z.ks.length c], .bool true]) ∧ Sep w' (fun b => W.heap.size ≤ b ∧ b < w'.heap.size) (.slice a z.ks.length c) z.ks ∧ Below W.heap.size W w') := fun W b => replace_bothS x (numN 5) (k : Int) W _ (fun _ => True) _ (.slice none 0 0) (hx.bel b) zx4 tx' (.nil _ _) (by omega) t5 z true HZ
  have SX : Hid (∀ W S a c, Sep W S (.slice a x.ks.length c) x.ks → (∀ b, S b → b < W.heap.size) → Calls Tryd.prog 5 #[.agg #[Value.int IntKind.i64 x.k, Value.string x.t, Value.int IntKind.i64 x.n, Value.slice a x.ks.length c]] W fun e w' => e = .returned (.tuple #[]) ∧ But S W w') := fun W S a c l h => spoil_any x W S _ l h zx4
  have SY : Hid (∀ W S a c, Sep W S (.slice a y.ks.length c) y.ks → (∀ b, S b → b < W.heap.size) → Calls Tryd.prog 5 #[.agg #[Value.int IntKind.i64 y.k, Value.string y.t, Value.int IntKind.i64 y.n, Value.slice a y.ks.length c]] W fun e w' => e = .returned (.tuple #[]) ∧ But S W w') := fun W S a c l h => spoil_any y W S _ l h yz
  have SZ : Hid (∀ W S a c, Sep W S (.slice a z.ks.length c) z.ks → (∀ b, S b → b < W.heap.size) → Calls Tryd.prog 5 #[.agg #[Value.int IntKind.i64 z.k, Value.string z.t, Value.int IntKind.i64 z.n, Value.slice a z.ks.length c]] W fun e w' => e = .returned (.tuple #[]) ∧ But S W w') := fun W S a c l h => spoil_any z W S _ l h zz
  have EX : Hid (∀ W S a c, Below w.heap.size w W → LAt W S (.slice a x.ks.length c) x.ks → Calls Tryd.prog 11 #[.agg #[Value.int IntKind.i64 x.k, Value.string x.t, Value.int IntKind.i64 x.n, Value.slice a x.ks.length c], .agg #[Value.int IntKind.i64 x.k, Value.string x.t, Value.int IntKind.i64 x.n, Value.slice ax x.ks.length cx]] W fun e w' => e = .returned (.bool true) ∧ Below W.heap.size W w') := fun W S a c b l => (rsame_any x x W _ _ _ _ l (hx.bel b) zx4 zx4).mono (by rintro e w' ⟨b, rfl, hb, bb⟩; exact ⟨by rw [hb.2 rfl], bb⟩)
  have EY : Hid (∀ W S T a c a' c', LAt W S (.slice a y.ks.length c) y.ks → LAt W T (.slice a' y.ks.length c') y.ks → Calls Tryd.prog 11 #[.agg #[Value.int IntKind.i64 y.k, Value.string y.t, Value.int IntKind.i64 y.n, Value.slice a y.ks.length c], .agg #[Value.int IntKind.i64 y.k, Value.string y.t, Value.int IntKind.i64 y.n, Value.slice a' y.ks.length c']] W fun e w' => e = .returned (.bool true) ∧ Below W.heap.size W w') := fun W S T a c a' c' l l' => (rsame_any y y W _ _ _ _ l l' yz yz).mono (by rintro e w' ⟨b, rfl, hb, bb⟩; exact ⟨by rw [hb.2 rfl], bb⟩)
  have EZ : Hid (∀ W S T a c a' c', LAt W S (.slice a z.ks.length c) z.ks → LAt W T (.slice a' z.ks.length c') z.ks → Calls Tryd.prog 11 #[.agg #[Value.int IntKind.i64 z.k, Value.string z.t, Value.int IntKind.i64 z.n, Value.slice a z.ks.length c], .agg #[Value.int IntKind.i64 z.k, Value.string z.t, Value.int IntKind.i64 z.n, Value.slice a' z.ks.length c']] W fun e w' => e = .returned (.bool true) ∧ Below W.heap.size W w') := fun W S T a c a' c' l l' => (rsame_any z z W _ _ _ _ l l' zz zz).mono (by rintro e w' ⟨b, rfl, hb, bb⟩; exact ⟨by rw [hb.2 rfl], bb⟩)
  have AW : Hid (∀ W, Below w.heap.size w W → Calls Tryd.prog 12 #[] W fun e w' => e = .returned (.bool true) ∧ Below W.heap.size W w') := fun W b => awake_any W (he.bel b)
  have RR : Hid (∀ W, Below w.heap.size w W → Calls Tryd.prog 9 #[.agg #[Value.int IntKind.i64 x.k, Value.string x.t, Value.int IntKind.i64 x.n, Value.slice ax x.ks.length cx], .int .i64 (k : Int), (.agg #[.int .i64 1, .string ⟨#[]⟩, .int .i64 5, .slice none 0 0])] W fun e w' => ∃ a c, e = .returned (.agg #[Value.int IntKind.i64 z.k, Value.string z.t, Value.int IntKind.i64 z.n, Value.slice a z.ks.length c]) ∧ LAt w' (fun b => W.heap.size ≤ b) (.slice a z.ks.length c) z.ks ∧ Below W.heap.size W w') := fun W b => by
    have := rrepl_any (numN 5) (by omega) x W _ (fun _ => True) _ (.slice none 0 0) (k : Int) (hx.bel b) (.nil _ _) zx4 (by omega) (by omega)
    rw [Int.toNat_natCast, hz] at this
    exact this.mono (by rintro e w' ⟨v, rfl, l, bb⟩; obtain ⟨a, c, rfl⟩ := l.sl; exact ⟨a, c, rfl, l, bb⟩)
  have FA : Hid (∀ W, Below w.heap.size w W → Calls Tryd.prog 10 #[.agg #[Value.int IntKind.i64 x.k, Value.string x.t, Value.int IntKind.i64 x.n, Value.slice ax x.ks.length cx], .slice none 0 0] W fun e w' => ∃ bl c a' c', e = .returned (.slice (some ⟨bl, 0, none⟩) x.flat.length c) ∧ Four w' bl (k * 4) y (.slice a' y.ks.length c') ∧ LAt w' (fun b => b < w.heap.size) (.slice a' y.ks.length c') y.ks ∧ Below W.heap.size W w') := fun W b => by
    have := flat_inS x W _ _ k hk (hx.bel b) zx4
    rw [hy] at this
    exact this
  have kl : (k : Int) < (x.flat.length : Int) := by omega
  have ix := fun W bl c => idx_nd W bl 0 x.flat.length c k hk
  have nx : Hid (∀ W' W'', Below w.heap.size w W' → Below W'.heap.size W' W'' → Below w.heap.size w W'') := fun W' W'' b b' => b.trans (b'.mono b.size)
  have nb : Hid (∀ W' W'' S, Below w.heap.size w W' → But S W' W'' → (∀ j, S j → w.heap.size ≤ j) → Below w.heap.size w W'') := fun W' W'' S b b' h => b.trans (b'.bel h b.size)
  have B0 : Below w.heap.size w (w.alloc (Obj.cells #[Value.int IntKind.i64 x.k, Value.string x.t, Value.int IntKind.i64 x.n, Value.slice ax x.ks.length cx] 24)) := bel_a _ _
  have X0 : Bx (w.alloc (Obj.cells #[Value.int IntKind.i64 x.k, Value.string x.t, Value.int IntKind.i64 x.n, Value.slice ax x.ks.length cx] 24)) w.heap.size x ax cx := Bx.new _ _ _ _
  unfold Nd.v
  clear hx tx tx' he HY HZ fl s5 t5 hmem yz0 hy? hz hzs hy hk
  go_enter Tryd.func3, Tryd.ntmps3
  go_upto_region 1 with fail
  generalize w.alloc (Obj.cells #[Value.int IntKind.i64 x.k, Value.string x.t, Value.int IntKind.i64 x.n, Value.slice ax x.ks.length cx] 24) = W0 at *
  have s0 : w.heap.size < W0.heap.size := X0.lt
  go_cut [5, 6] (fun u5 u6 W => ∃ p q a c a' c' Sa Sb, u5 = .pointer (some ⟨p, 0, none⟩) ∧ u6 = .pointer (some ⟨q, 0, none⟩) ∧ TwoS W0 x p q a c a' c' Sa Sb W)
  case first =>
    refine copies x ax cx w.heap.size _ _ W0 X0 (fun W b => CC.out W (nx.out _ _ B0 b)) ?_
    intro p q a c a' c' Sa Sb W T
    dsimp only [fr1]
    go_wp2
    go_meet
    exact ⟨p, q, a, c, a', c', Sa, Sb, rfl, rfl, T⟩
  obtain ⟨p, q, a, c, a', c', Sa, Sb, rfl, rfl, T⟩ := hcut
  have B1 := nx.out _ _ B0 T.bel
  have X1 := X0.bel T.bel
  have sT := T.bel.size
  obtain ⟨P1, Q1, LA1, LB1, _, SA, SAB⟩ := T
  have LB1 := LB1.lat.mono' (fun b hb hS => And.intro hb hS)
  have C1 := SX.out _ _ _ _ LA1 (fun b hb => (SA b hb).2.1)
  clear CC SX LA1 X0 B0
  obtain ⟨_, _, _, _⟩ := P1.cs
  go_upto_region 3 with (go_at_call 5; refine C1.mono ?_; rintro e W2 ⟨rfl, b2⟩)
  have B2 := nb.out _ _ _ B1 b2 (fun j hj => by have := (SA j hj).1; omega)
  have X2 := bx_but X1 b2 (fun h => by have := (SA _ h).1; omega)
  have Q2 := bx_but Q1 b2 (fun h => (SA _ h).2.2.2 rfl)
  have q2 : q < W2.heap.size := Q2.lt
  have LB2 := (lat_but LB1 b2 (fun j hj h => SAB j h hj.2)).mono (fun j hj => show j < W2.heap.size from Nat.lt_of_lt_of_le hj.1 b2.size)
  have x2 : w.heap.size < W2.heap.size := X2.lt
  clear X1 Q1 LB1 B1 C1 b2 SA SAB P1
  obtain ⟨_, _, _, _⟩ := X2.cs
  go_upto_region 4 with (go_at_call 6; refine (CA.out _ B2).mono ?_; rintro e W3 ⟨a3, c3, rfl, s3, b3⟩)
  obtain ⟨V3, hV3⟩ : ∃ W, W3.alloc (Obj.cells #[Value.int IntKind.i64 y.k, Value.string y.t, Value.int IntKind.i64 y.n, Value.slice a3 y.ks.length c3] 24) = W := ⟨_, rfl⟩
  have b3' : Below W3.heap.size W3 V3 := by rw [← hV3]; exact bel_a _ _
  have P7 : Bx V3 W3.heap.size y a3 c3 := by rw [← hV3]; exact Bx.new _ _ _ _
  have S3 := s3.keep (fun j _ hj => b3'.block j hj)
  have X3 := (X2.bel b3).bel b3'
  have Q3 := (Q2.bel b3).bel b3'
  have LB3 := (LB2.bel b3).bel b3'
  have B3 := nx.out _ _ (nx.out _ _ B2 b3) b3'
  have n3 : W2.heap.size ≤ W3.heap.size := b3.size
  have n3' : W3.heap.size < V3.heap.size := P7.lt
  rw [hV3]
  clear hV3 X2 Q2 LB2 B2 b3 b3' s3
  generalize W3.heap.size = p7 at *
  generalize W2.heap.size = n2 at *
  obtain ⟨_, _, _, _⟩ := X3.cs
  go_upto_region 5 with (go_at_call 6; refine (CA.out _ B3).mono ?_; rintro e W4 ⟨a4, c4, rfl, s4, b4⟩)
  obtain ⟨V4, hV4⟩ : ∃ W, W4.alloc (Obj.cells #[Value.int IntKind.i64 y.k, Value.string y.t, Value.int IntKind.i64 y.n, Value.slice a4 y.ks.length c4] 24) = W := ⟨_, rfl⟩
  have b4' : Below W4.heap.size W4 V4 := by rw [← hV4]; exact bel_a _ _
  have P9 : Bx V4 W4.heap.size y a4 c4 := by rw [← hV4]; exact Bx.new _ _ _ _
  have LY4 := s4.lat.bel b4'
  have S4 := (S3.keep (fun j _ hj => b4.block j hj)).keep (fun j _ hj => b4'.block j hj)
  have X4 := (X3.bel b4).bel b4'
  have Q4 := (Q3.bel b4).bel b4'
  have P4 := (P7.bel b4).bel b4'
  have LB4 := (LB3.bel b4).bel b4'
  have B4 := nx.out _ _ (nx.out _ _ B3 b4) b4'
  have n4 : V3.heap.size ≤ W4.heap.size := b4.size
  have n4' : W4.heap.size < V4.heap.size := P9.lt
  rw [hV4]
  clear hV4 X3 Q3 LB3 B3 b4 b4' s4 P7 S3 CA
  generalize W4.heap.size = p9 at *
  generalize V3.heap.size = n3s at *
  obtain ⟨_, _, _, _⟩ := P4.cs
  have C4 := SY.out _ _ _ _ S4 (fun b hb => by have := hb.2; omega)
  go_upto_region 7 with (go_at_call 5; refine C4.mono ?_; rintro e W5 ⟨rfl, b5⟩)
  have B5 := nb.out _ _ _ B4 b5 (fun j hj => by have := hj.1; omega)
  have X5 := bx_but X4 b5 (fun h => by have := h.1; omega)
  have Q5 := bx_but Q4 b5 (fun h => by have := h.1; omega)
  have P5 := bx_but P9 b5 (fun h => by have := h.2; omega)
  have LB5 := lat_but LB4 b5 (fun j hj h => by have h1 : j < n2 := hj; have := h.1; omega)
  have LY5 := lat_but LY4 b5 (fun j hj h => by have := hj.1; have := h.2; omega)
  clear X4 Q4 P9 LB4 LY4 B4 C4 S4 b5 P4 SY
  go_cut [11, 12] (fun u1 u2 W => ∃ p a c S, u1 = .pointer (some ⟨p, 0, none⟩) ∧ u2 = .bool true ∧ OneS W5 z p a c S W)
  case first =>
    refine repl7 x z true ax cx w.heap.size W5 X5 (fun W b => CR.out W (nx.out _ _ B5 b)) ?_
    intro p a c S W T
    dsimp only [fr7]
    go_wp2
    go_meet
    exact ⟨p, a, c, S, rfl, rfl, T⟩
  obtain ⟨p11, a11, c11, S11, rfl, rfl, T11⟩ := hcut
  have B6 := nx.out _ _ B5 T11.bel
  have X6 := X5.bel T11.bel
  have Q6 := Q5.bel T11.bel
  have P6 := P5.bel T11.bel
  have LB6 := LB5.bel T11.bel
  have LY6 := LY5.bel T11.bel
  have m5 := P5.lt
  have m6 : W5.heap.size ≤ wc.heap.size := T11.bel.size
  obtain ⟨K6, L6, _, lo6, SB6⟩ := T11
  have m6' : n3s ≤ W5.heap.size := by omega
  have m6'' : n2 ≤ W5.heap.size := by omega
  clear B5 X5 Q5 P5 LB5 LY5
  obtain ⟨W6, hW6⟩ : ∃ W, wc = W := ⟨_, rfl⟩
  rw [hW6] at B6 X6 Q6 P6 LB6 LY6 K6 L6 SB6 m6 ⊢
  clear hW6
  go_upto_region 8 with fail
  go_cut [13, 14] (fun u1 u2 W => ∃ p a c S, u1 = .pointer (some ⟨p, 0, none⟩) ∧ u2 = .bool true ∧ OneS W6 z p a c S W)
  case first =>
    refine repl8 x z true ax cx w.heap.size W6 X6 (fun W b => CR.out W (nx.out _ _ B6 b)) ?_
    intro p a c S W T
    dsimp only [fr8]
    go_wp2
    go_meet
    exact ⟨p, a, c, S, rfl, rfl, T⟩
  obtain ⟨p13, a13, c13, S13, rfl, rfl, T13⟩ := hcut
  have B7 := nx.out _ _ B6 T13.bel
  have X7 := X6.bel T13.bel
  have Q7 := Q6.bel T13.bel
  have P7 := P6.bel T13.bel
  have LB7 := LB6.bel T13.bel
  have LY7 := LY6.bel T13.bel
  have K7 := K6.bel T13.bel
  have L7 := L6.keep (fun j _ hj => T13.bel.block j hj)
  have m7 := T13.bel.size
  have k6 := K6.lt
  obtain ⟨Z7, LZ7, _, lo7, SB7⟩ := T13
  have LZ7 := (LZ7.lat).mono (fun j hj => (SB7 j hj).1)
  clear B6 X6 Q6 P6 LB6 LY6 K6 L6 CR SB7
  obtain ⟨W7, hW7⟩ : ∃ W, wc = W := ⟨_, rfl⟩
  rw [hW7] at B7 X7 Q7 P7 LB7 LY7 K7 L7 Z7 LZ7 m7 ⊢
  clear hW7
  obtain ⟨_, _, _, _⟩ := K7.cs
  have C7 := SZ.out _ _ _ _ L7 (fun b hb => by have := (SB6 b hb).2.1; omega)
  go_upto_region 14 with (go_at_call 5; refine C7.mono ?_; rintro e W8 ⟨rfl, b8⟩)
  have B8 := nb.out _ _ _ B7 b8 (fun j hj => by have := (SB6 j hj).1; omega)
  have X8 := bx_but X7 b8 (fun h => by have := (SB6 _ h).1; omega)
  have Q8 := bx_but Q7 b8 (fun h => by have := (SB6 _ h).1; omega)
  have P8 := bx_but P7 b8 (fun h => by have := (SB6 _ h).1; omega)
  have Z8 := bx_but Z7 b8 (fun h => by have := (SB6 _ h).2.1; omega)
  have LB8 := lat_but LB7 b8 (fun j hj h => by have h1 : j < n2 := hj; have := (SB6 _ h).1; omega)
  have LY8 := lat_but LY7 b8 (fun j hj h => by have := hj.2; have := (SB6 _ h).1; omega)
  have LZ8 := lat_but LZ7 b8 (fun j hj h => by have h1 : W6.heap.size ≤ j := hj; have := (SB6 _ h).2.1; omega)
  have m8 : p13 < W8.heap.size := Z8.lt
  have m8' : p9 < W8.heap.size := P8.lt
  have m8q : q < W8.heap.size := Q8.lt
  have m8x : w.heap.size < W8.heap.size := X8.lt
  have m8b := b8.size
  have LZ8 := LZ8.mono' (fun j hj hS => show j < W8.heap.size from hj)
  have LB8 := LB8.mono' (fun j hj hS => show j < W8.heap.size from hj)
  have LY8 := LY8.mono' (fun j hj hS => show j < W8.heap.size from hj)
  clear B7 X7 Q7 P7 Z7 LB7 LY7 LZ7 b8 C7 K7 L7 SZ SB6
  obtain ⟨V9, hV9⟩ : ∃ W, (W8.alloc (Obj.cells #[Value.int IntKind.i64 0, Value.string { data := #[] }, Value.int IntKind.i64 0, Value.slice none 0 0] 24)).alloc (Obj.cells #[Value.int IntKind.i64 0, Value.string { data := #[] }, Value.int IntKind.i64 0, Value.slice none 0 0] 24) = W := ⟨_, rfl⟩
  have b9 : Below W8.heap.size W8 V9 := by rw [← hV9]; exact (bel_a _ _).alloc (by simp) _
  have z15 : V9.heap[W8.heap.size]? = some cellsZ := by rw [← hV9]; exact hold _ (by simp) (hnew _ rfl)
  have z16 : V9.heap[W8.heap.size + 1]? = some cellsZ := by rw [← hV9]; exact hnew _ (by simp)
  have X9 := X8.bel b9
  have Q9 := Q8.bel b9
  have P9 := P8.bel b9
  have Z9 := Z8.bel b9
  have LB9 := LB8.bel b9
  have LY9 := LY8.bel b9
  have LZ9 := LZ8.bel b9
  have B9 := nx.out _ _ B8 b9
  have m9 : W8.heap.size + 1 < V9.heap.size := (Array.getElem?_eq_some_iff.1 z16).1
  rw [hV9]
  clear hV9 X8 Q8 P8 Z8 LB8 LY8 LZ8 B8 b9
  generalize W8.heap.size = p15 at *
  have aft : Hid (∀ W', Below V9.heap.size V9 W' → W'.heap[p15]? = some cellsZ) := fun W' b => holdB b z15
  have xft : Hid (∀ W', Below V9.heap.size V9 W' → (W'.cell? ⟨w.heap.size, 0, none⟩ = some (.int .i64 x.k) ∧ W'.cell? ⟨w.heap.size, 1, none⟩ = some (.string x.t) ∧ W'.cell? ⟨w.heap.size, 2, none⟩ = some (.int .i64 x.n) ∧ W'.cell? ⟨w.heap.size, 3, none⟩ = some (.slice ax x.ks.length cx))) := fun W' b => (X9.bel b).cs
  go_cut [15] (fun u W => u = .pointer (some ⟨p15, 0, none⟩) ∧ ∃ a c, Bx W p15 z a c ∧ LAt W (fun j => V9.heap.size ≤ j) (.slice a z.ks.length c) z.ks ∧ But (fun j => j = p15) V9 W)
  case first =>
    obtain ⟨_, _, _, _⟩ := xft.out _ (Below.refl _ _).drew
    obtain ⟨_, _, _, _⟩ := xft.out _ (Below.refl _ _)
    go_region_law (first
      | (refine step_call1 (by rfl) 8 _ _ (by rfl) (.int .i64 5) (by rfl) (enters_of Tryd.func8 (by kernel_rfl) rfl) (num_b 5 _) ?_
         rintro e W10 ⟨rfl, b10⟩
         refine ⟨_, rfl, ?_⟩
         have D10 : Below V9.heap.size V9 W10 := (Below.refl _ _).drew.trans b10
         obtain ⟨_, _, _, _⟩ := xft.out _ D10)
      | (refine step_call3 (by rfl) 9 _ _ _ _ (by rfl) (.agg #[Value.int IntKind.i64 x.k, Value.string x.t, Value.int IntKind.i64 x.n, Value.slice ax x.ks.length cx]) (.int .i64 (k : Int)) (.agg #[.int .i64 1, .string ⟨#[]⟩, .int .i64 5, .slice none 0 0]) (by rfl) (by rfl) (by rfl) (enters_of Tryd.func9 (by kernel_rfl) rfl) (RR.out _ (nx.out _ _ B9 D10)) ?_
         rintro e W11 ⟨a1, c1, rfl, l11, b11⟩
         refine ⟨_, rfl, ?_⟩
         have D11 : Below V9.heap.size V9 W11 := D10.trans (b11.mono D10.size)
         have y15 := aft.out _ D11
         obtain ⟨⟨_, _, _, _⟩, ⟨_, _, _, _⟩⟩ := box4 y15))
    all_goals
      have g1 : V9.heap.size ≤ W10.heap.size := D10.size
      have T1 : Bx ((((W11.setCell ⟨p15, 0, none⟩ (.int .i64 z.k)).setCell ⟨p15, 1, none⟩ (.string z.t)).setCell ⟨p15, 2, none⟩ (.int .i64 z.n)).setCell ⟨p15, 3, none⟩ (.slice a1 z.ks.length c1)) p15 z a1 c1 := ⟨box4_set _ _ _ _ y15⟩
      have T3 : But (fun j => j = p15) V9 ((((W11.setCell ⟨p15, 0, none⟩ (.int .i64 z.k)).setCell ⟨p15, 1, none⟩ (.string z.t)).setCell ⟨p15, 2, none⟩ (.int .i64 z.n)).setCell ⟨p15, 3, none⟩ (.slice a1 z.ks.length c1)) := But.set4 (S := fun j => j = p15) (bl := p15) (o := 0) (But.of_bel D11) (fun _ => rfl) _ _ _ _
      have T2 : LAt ((((W11.setCell ⟨p15, 0, none⟩ (.int .i64 z.k)).setCell ⟨p15, 1, none⟩ (.string z.t)).setCell ⟨p15, 2, none⟩ (.int .i64 z.n)).setCell ⟨p15, 3, none⟩ (.slice a1 z.ks.length c1)) (fun j => V9.heap.size ≤ j) (.slice a1 z.ks.length c1) z.ks := (l11.keep (by simp [World.setCell]) (fun j hj hl => set4_other (o := 0) _ _ _ _ (by have h1 : W10.heap.size ≤ j := hj; omega))).mono (fun j hj => Nat.le_trans g1 hj)
      clear l11 b11 b10 D10 D11 y15 aft xft
      go_wp2
      go_meet
      exact ⟨rfl, a1, c1, T1, T2, T3⟩
  obtain ⟨rfl, a15, c15, F15, LW, bw⟩ := hcut
  have X10 := bx_but X9 bw (by omega)
  have Q10 := bx_but Q9 bw (by omega)
  have P10 := bx_but P9 bw (by omega)
  have Z10 := bx_but Z9 bw (by omega)
  have LB10 := lat_but LB9 bw (fun j hj h => by have h1 : j < p15 := hj; omega)
  have LY10 := lat_but LY9 bw (fun j hj h => by have h1 : j < p15 := hj; omega)
  have LZ10 := lat_but LZ9 bw (fun j hj h => by have h1 : j < p15 := hj; omega)
  have B10 := nb.out _ _ _ B9 bw (fun j hj => by omega)
  have y16 := (bw.block (p15 + 1) (by omega) (by omega)).trans z16
  have m10 := bw.size
  clear X9 Q9 P9 Z9 LB9 LY9 LZ9 B9 z15 z16 aft xft RR
  obtain ⟨W10, hW10⟩ : ∃ W, wc = W := ⟨_, rfl⟩
  rw [hW10] at X10 Q10 P10 Z10 LB10 LY10 LZ10 B10 y16 F15 LW m10 ⊢
  clear hW10 bw
  obtain ⟨_, _, _, _⟩ := X10.cs
  go_upto_region 16 with (go_at_call 10; refine (FA.out _ B10).mono ?_; rintro e W12 ⟨bl, cc, a16, c16, rfl, F12, l12, b12⟩; have y16' := holdB b12 y16; obtain ⟨⟨_, _, _, _⟩, ⟨_, _, _, _⟩⟩ := box4 y16'; obtain ⟨_, _, _, _⟩ := F12; have ix' := fun W => ix W bl cc)
  obtain ⟨V13, hV13⟩ : ∃ W, ((((W12.setCell ⟨p15 + 1, 0, none⟩ (.int .i64 y.k)).setCell ⟨p15 + 1, 1, none⟩ (.string y.t)).setCell ⟨p15 + 1, 2, none⟩ (.int .i64 y.n)).setCell ⟨p15 + 1, 3, none⟩ (.slice a16 y.ks.length c16)) = W := ⟨_, rfl⟩
  have bv : But (fun j => j = p15 + 1) W10 V13 := by rw [← hV13]; exact But.set4 (S := fun j => j = p15 + 1) (bl := p15 + 1) (o := 0) (But.of_bel b12) (fun _ => rfl) _ _ _ _
  have F16 : Bx V13 (p15 + 1) y a16 c16 := by rw [← hV13]; exact ⟨box4_set _ _ _ _ y16'⟩
  have LF : LAt V13 (fun j => j < w.heap.size) (.slice a16 y.ks.length c16) y.ks := by rw [← hV13]; exact l12.keep (by simp [World.setCell]) (fun j hj hl => set4_other (o := 0) _ _ _ _ (by have h1 : j < w.heap.size := hj; omega))
  have X13 := bx_but X10 bv (by omega)
  have Q13 := bx_but Q10 bv (by omega)
  have P13 := bx_but P10 bv (by omega)
  have Z13 := bx_but Z10 bv (by omega)
  have F15' := bx_but F15 bv (by omega)
  have LB13 := lat_but LB10 bv (fun j hj h => by have h1 : j < p15 := hj; omega)
  have LY13 := lat_but LY10 bv (fun j hj h => by have h1 : j < p15 := hj; omega)
  have LZ13 := lat_but LZ10 bv (fun j hj h => by have h1 : j < p15 := hj; omega)
  have LW13 := lat_but LW bv (fun j hj h => by have h1 : V9.heap.size ≤ j := hj; omega)
  have B13 := nb.out _ _ _ B10 bv (fun j hj => by omega)
  rw [hV13]
  clear hV13 X10 Q10 P10 Z10 LB10 LY10 LZ10 B10 y16 F15 LW m10 bv b12 y16' ix ix' l12 FA
  obtain ⟨_, _, _, _⟩ := Q13.cs
  obtain ⟨_, _, _, _⟩ := X13.cs
  have ky : Hid (∀ W', Below V13.heap.size V13 W' → (W'.cell? ⟨p9, 0, none⟩ = some (.int .i64 y.k) ∧ W'.cell? ⟨p9, 1, none⟩ = some (.string y.t) ∧ W'.cell? ⟨p9, 2, none⟩ = some (.int .i64 y.n) ∧ W'.cell? ⟨p9, 3, none⟩ = some (.slice a4 y.ks.length c4)) ∧ (W'.cell? ⟨p15 + 1, 0, none⟩ = some (.int .i64 y.k) ∧ W'.cell? ⟨p15 + 1, 1, none⟩ = some (.string y.t) ∧ W'.cell? ⟨p15 + 1, 2, none⟩ = some (.int .i64 y.n) ∧ W'.cell? ⟨p15 + 1, 3, none⟩ = some (.slice a16 y.ks.length c16))) := fun W' b => ⟨(P13.bel b).cs, (F16.bel b).cs⟩
  have kz : Hid (∀ W', Below V13.heap.size V13 W' → (W'.cell? ⟨p13, 0, none⟩ = some (.int .i64 z.k) ∧ W'.cell? ⟨p13, 1, none⟩ = some (.string z.t) ∧ W'.cell? ⟨p13, 2, none⟩ = some (.int .i64 z.n) ∧ W'.cell? ⟨p13, 3, none⟩ = some (.slice a13 z.ks.length c13)) ∧ (W'.cell? ⟨p15, 0, none⟩ = some (.int .i64 z.k) ∧ W'.cell? ⟨p15, 1, none⟩ = some (.string z.t) ∧ W'.cell? ⟨p15, 2, none⟩ = some (.int .i64 z.n) ∧ W'.cell? ⟨p15, 3, none⟩ = some (.slice a15 z.ks.length c15))) := fun W' b => ⟨(Z13.bel b).cs, (F15'.bel b).cs⟩
  have t1 : True := trivial
  have t2 : True := trivial
  clear P13 Z13 F15' F16
  go_wp2_with (first
    | (go_at_call 11; have _t := t1; refine (EX.out _ _ _ _ B13 LB13).mono ?_; rintro e W14 ⟨rfl, b14⟩; have B14 := nx.out _ _ B13 b14; obtain ⟨⟨_, _, _, _⟩, ⟨_, _, _, _⟩⟩ := ky.out _ b14; have LY14 := LY13.bel b14; have LF14 := LF.bel b14; clear t1)
    | (go_at_call 11; have _t := t2; refine (EY.out _ _ _ _ _ _ _ LY14 LF14).mono ?_; rintro e W15 ⟨rfl, b15⟩; have B15 := nx.out _ _ B14 b15; have d15 : Below V13.heap.size V13 W15 := b14.trans (b15.mono b14.size); obtain ⟨⟨_, _, _, _⟩, ⟨_, _, _, _⟩⟩ := kz.out _ d15; have LZ15 := LZ13.bel d15; have LW15 := LW13.bel d15; clear t2)
    | (go_at_call 11; refine (EZ.out _ _ _ _ _ _ _ LZ15 LW15).mono ?_; rintro e W16 ⟨rfl, b16⟩; have B16 := nx.out _ _ B15 b16)
    | (go_at_call 12; refine (AW.out _ B16).mono ?_; rintro e W17 ⟨rfl, b17⟩; have B17 := nx.out _ _ B16 b17))
  all_goals
    go_ret
    exact ⟨rfl, B17⟩
end Go.Proofs.YtggahoefbcnaiabDoor.Own
namespace Go.Proofs.YtggahoefbcnaiabDoor.Own
open Go.RowKit
set_option linter.unusedVariables false
set_option linter.unusedSimpArgs false

set_option maxRecDepth 100000 in
set_option maxHeartbeats 16000000 in
theorem walk_out (x : Nd) (vx : Value) (i : Int) (w : World) (hx : LAt w (fun b => b < w.heap.size) vx x.ks) (zx : x.size ≤ 1048576) (tx : ∀ z ∈ x.flat, z.t.size ≤ 1048576) (he : WEnv w) (hi : i < 0 ∨ (x.flat.length : Int) ≤ i) :
    Calls Tryd.prog 3 #[x.v vx, .int .i64 i] w fun e w' => e = .returned (.bool true) ∧ Below w.heap.size w w' := by
  have tx' : x.tx := fun z hz => Nat.le_trans (tx z hz) (by decide)
  obtain ⟨ax, cx, rfl⟩ := hx.sl
  have zx4 : x.size ≤ 4194304 := by omega
  have fl := x.flat_len
  have s5 : (numN 5).size = 1 := size_num 5
  have t5 : (numN 5).tx := tx_num 5
  obtain ⟨y, hy⟩ : ∃ y, y = zN := ⟨_, rfl⟩
  obtain ⟨z, hz⟩ : ∃ z, z = zN := ⟨_, rfl⟩
  have yz : y.size ≤ 4194304 := by rw [hy]; decide
  have zz : z.size ≤ 4194304 := by rw [hz]; decide
  have HY : (0 ≤ i ∧ x.flat[i.toNat]? = some y ∧ false = true) ∨ ((i < 0 ∨ (x.size : Int) ≤ i) ∧ y = zN ∧ false = false) := Or.inr ⟨by omega, hy, rfl⟩
  have HZ : (0 ≤ i ∧ i < x.size ∧ z = x.repl i.toNat (numN 5) ∧ false = true) ∨ ((i < 0 ∨ (x.size : Int) ≤ i) ∧ z = zN ∧ false = false) := Or.inr ⟨by omega, hz, rfl⟩
  have CC : Hid (∀ W, Below w.heap.size w W → Calls Tryd.prog 4 #[.agg #[Value.int IntKind.i64 x.k, Value.string x.t, Value.int IntKind.i64 x.n, Value.slice ax x.ks.length cx]] W fun e w' => ∃ a c, e = .returned (.agg #[Value.int IntKind.i64 x.k, Value.string x.t, Value.int IntKind.i64 x.n, Value.slice a x.ks.length c]) ∧ Sep w' (fun b => W.heap.size ≤ b ∧ b < w'.heap.size) (.slice a x.ks.length c) x.ks ∧ Below W.heap.size W w') := fun W b => (copy_any x W _ _ (hx.bel b) zx4 tx').mono (by rintro e w' ⟨v, rfl, l, bb⟩; obtain ⟨a, c, rfl⟩ := l.sl; exact ⟨a, c, rfl, l, bb⟩)
  have CA : Hid (∀ W, Below w.heap.size w W → Calls Tryd.prog 6 #[.agg #[Value.int IntKind.i64 x.k, Value.string x.t, Value.int IntKind.i64 x.n, Value.slice ax x.ks.length cx], .int .i64 i] W fun e w' => ∃ a c, e = .returned (.tuple #[.agg #[Value.int IntKind.i64 y.k, Value.string y.t, Value.int IntKind.i64 y.n, Value.slice a y.ks.length c], .bool false]) ∧ Sep w' (fun b => W.heap.size ≤ b ∧ b < w'.heap.size) (.slice a y.ks.length c) y.ks ∧ Below W.heap.size W w') := fun W b => at_both x i W _ _ (hx.bel b) zx4 tx' y false HY
  have CR : Hid (∀ W, Below w.heap.size w W → Calls Tryd.prog 7 #[.agg #[Value.int IntKind.i64 x.k, Value.string x.t, Value.int IntKind.i64 x.n, Value.slice ax x.ks.length cx], .int .i64 i, (.agg #[.int .i64 1, .string ⟨#[]⟩, .int .i64 5, .slice none 0 0])] W fun e w' => ∃ a c, e = .returned (.tuple #[.agg #[Value.int IntKind.i64 z.k, Value.string z.t, Value.int IntKind.i64 z.n, Value.slice a z.ks.length c], .bool false]) ∧ Sep w' (fun b => W.heap.size ≤ b ∧ b < w'.heap.size) (.slice a z.ks.length c) z.ks ∧ Below W.heap.size W w') := fun W b => replace_bothS x (numN 5) i W _ (fun _ => True) _ (.slice none 0 0) (hx.bel b) zx4 tx' (.nil _ _) (by omega) t5 z false HZ
  have SX : Hid (∀ W S a c, Sep W S (.slice a x.ks.length c) x.ks → (∀ b, S b → b < W.heap.size) → Calls Tryd.prog 5 #[.agg #[Value.int IntKind.i64 x.k, Value.string x.t, Value.int IntKind.i64 x.n, Value.slice a x.ks.length c]] W fun e w' => e = .returned (.tuple #[]) ∧ But S W w') := fun W S a c l h => spoil_any x W S _ l h zx4
  have SY : Hid (∀ W S a c, Sep W S (.slice a y.ks.length c) y.ks → (∀ b, S b → b < W.heap.size) → Calls Tryd.prog 5 #[.agg #[Value.int IntKind.i64 y.k, Value.string y.t, Value.int IntKind.i64 y.n, Value.slice a y.ks.length c]] W fun e w' => e = .returned (.tuple #[]) ∧ But S W w') := fun W S a c l h => spoil_any y W S _ l h yz
  have SZ : Hid (∀ W S a c, Sep W S (.slice a z.ks.length c) z.ks → (∀ b, S b → b < W.heap.size) → Calls Tryd.prog 5 #[.agg #[Value.int IntKind.i64 z.k, Value.string z.t, Value.int IntKind.i64 z.n, Value.slice a z.ks.length c]] W fun e w' => e = .returned (.tuple #[]) ∧ But S W w') := fun W S a c l h => spoil_any z W S _ l h zz
  have EX : Hid (∀ W S a c, Below w.heap.size w W → LAt W S (.slice a x.ks.length c) x.ks → Calls Tryd.prog 11 #[.agg #[Value.int IntKind.i64 x.k, Value.string x.t, Value.int IntKind.i64 x.n, Value.slice a x.ks.length c], .agg #[Value.int IntKind.i64 x.k, Value.string x.t, Value.int IntKind.i64 x.n, Value.slice ax x.ks.length cx]] W fun e w' => e = .returned (.bool true) ∧ Below W.heap.size W w') := fun W S a c b l => (rsame_any x x W _ _ _ _ l (hx.bel b) zx4 zx4).mono (by rintro e w' ⟨b, rfl, hb, bb⟩; exact ⟨by rw [hb.2 rfl], bb⟩)
  have EY : Hid (∀ W S T a c a' c', LAt W S (.slice a y.ks.length c) y.ks → LAt W T (.slice a' y.ks.length c') y.ks → Calls Tryd.prog 11 #[.agg #[Value.int IntKind.i64 y.k, Value.string y.t, Value.int IntKind.i64 y.n, Value.slice a y.ks.length c], .agg #[Value.int IntKind.i64 y.k, Value.string y.t, Value.int IntKind.i64 y.n, Value.slice a' y.ks.length c']] W fun e w' => e = .returned (.bool true) ∧ Below W.heap.size W w') := fun W S T a c a' c' l l' => (rsame_any y y W _ _ _ _ l l' yz yz).mono (by rintro e w' ⟨b, rfl, hb, bb⟩; exact ⟨by rw [hb.2 rfl], bb⟩)
  have EZ : Hid (∀ W S T a c a' c', LAt W S (.slice a z.ks.length c) z.ks → LAt W T (.slice a' z.ks.length c') z.ks → Calls Tryd.prog 11 #[.agg #[Value.int IntKind.i64 z.k, Value.string z.t, Value.int IntKind.i64 z.n, Value.slice a z.ks.length c], .agg #[Value.int IntKind.i64 z.k, Value.string z.t, Value.int IntKind.i64 z.n, Value.slice a' z.ks.length c']] W fun e w' => e = .returned (.bool true) ∧ Below W.heap.size W w') := fun W S T a c a' c' l l' => (rsame_any z z W _ _ _ _ l l' zz zz).mono (by rintro e w' ⟨b, rfl, hb, bb⟩; exact ⟨by rw [hb.2 rfl], bb⟩)
  have AW : Hid (∀ W, Below w.heap.size w W → Calls Tryd.prog 12 #[] W fun e w' => e = .returned (.bool true) ∧ Below W.heap.size W w') := fun W b => awake_any W (he.bel b)
  have HN : Hid (y = zN ∧ z = zN) := ⟨hy, hz⟩
  have nx : Hid (∀ W' W'', Below w.heap.size w W' → Below W'.heap.size W' W'' → Below w.heap.size w W'') := fun W' W'' b b' => b.trans (b'.mono b.size)
  have nb : Hid (∀ W' W'' S, Below w.heap.size w W' → But S W' W'' → (∀ j, S j → w.heap.size ≤ j) → Below w.heap.size w W'') := fun W' W'' S b b' h => b.trans (b'.bel h b.size)
  have B0 : Below w.heap.size w (w.alloc (Obj.cells #[Value.int IntKind.i64 x.k, Value.string x.t, Value.int IntKind.i64 x.n, Value.slice ax x.ks.length cx] 24)) := bel_a _ _
  have X0 : Bx (w.alloc (Obj.cells #[Value.int IntKind.i64 x.k, Value.string x.t, Value.int IntKind.i64 x.n, Value.slice ax x.ks.length cx] 24)) w.heap.size x ax cx := Bx.new _ _ _ _
  unfold Nd.v
  clear hx tx tx' he HY HZ fl s5 t5 hy hz hi
  go_enter Tryd.func3, Tryd.ntmps3
  go_upto_region 1 with fail
  generalize w.alloc (Obj.cells #[Value.int IntKind.i64 x.k, Value.string x.t, Value.int IntKind.i64 x.n, Value.slice ax x.ks.length cx] 24) = W0 at *
  have s0 : w.heap.size < W0.heap.size := X0.lt
  go_cut [5, 6] (fun u5 u6 W => ∃ p q a c a' c' Sa Sb, u5 = .pointer (some ⟨p, 0, none⟩) ∧ u6 = .pointer (some ⟨q, 0, none⟩) ∧ TwoS W0 x p q a c a' c' Sa Sb W)
  case first =>
    refine copies x ax cx w.heap.size _ _ W0 X0 (fun W b => CC.out W (nx.out _ _ B0 b)) ?_
    intro p q a c a' c' Sa Sb W T
    dsimp only [fr1]
    go_wp2
    go_meet
    exact ⟨p, q, a, c, a', c', Sa, Sb, rfl, rfl, T⟩
  obtain ⟨p, q, a, c, a', c', Sa, Sb, rfl, rfl, T⟩ := hcut
  have B1 := nx.out _ _ B0 T.bel
  have X1 := X0.bel T.bel
  have sT := T.bel.size
  obtain ⟨P1, Q1, LA1, LB1, _, SA, SAB⟩ := T
  have LB1 := LB1.lat.mono' (fun b hb hS => And.intro hb hS)
  have C1 := SX.out _ _ _ _ LA1 (fun b hb => (SA b hb).2.1)
  clear CC SX LA1 X0 B0
  obtain ⟨_, _, _, _⟩ := P1.cs
  go_upto_region 3 with (go_at_call 5; refine C1.mono ?_; rintro e W2 ⟨rfl, b2⟩)
  have B2 := nb.out _ _ _ B1 b2 (fun j hj => by have := (SA j hj).1; omega)
  have X2 := bx_but X1 b2 (fun h => by have := (SA _ h).1; omega)
  have Q2 := bx_but Q1 b2 (fun h => (SA _ h).2.2.2 rfl)
  have q2 : q < W2.heap.size := Q2.lt
  have LB2 := (lat_but LB1 b2 (fun j hj h => SAB j h hj.2)).mono (fun j hj => show j < W2.heap.size from Nat.lt_of_lt_of_le hj.1 b2.size)
  have x2 : w.heap.size < W2.heap.size := X2.lt
  clear X1 Q1 LB1 B1 C1 b2 SA SAB P1
  obtain ⟨_, _, _, _⟩ := X2.cs
  go_upto_region 4 with (go_at_call 6; refine (CA.out _ B2).mono ?_; rintro e W3 ⟨a3, c3, rfl, s3, b3⟩)
  obtain ⟨V3, hV3⟩ : ∃ W, W3.alloc (Obj.cells #[Value.int IntKind.i64 y.k, Value.string y.t, Value.int IntKind.i64 y.n, Value.slice a3 y.ks.length c3] 24) = W := ⟨_, rfl⟩
  have b3' : Below W3.heap.size W3 V3 := by rw [← hV3]; exact bel_a _ _
  have P7 : Bx V3 W3.heap.size y a3 c3 := by rw [← hV3]; exact Bx.new _ _ _ _
  have S3 := s3.keep (fun j _ hj => b3'.block j hj)
  have X3 := (X2.bel b3).bel b3'
  have Q3 := (Q2.bel b3).bel b3'
  have LB3 := (LB2.bel b3).bel b3'
  have B3 := nx.out _ _ (nx.out _ _ B2 b3) b3'
  have n3 : W2.heap.size ≤ W3.heap.size := b3.size
  have n3' : W3.heap.size < V3.heap.size := P7.lt
  rw [hV3]
  clear hV3 X2 Q2 LB2 B2 b3 b3' s3
  generalize W3.heap.size = p7 at *
  generalize W2.heap.size = n2 at *
  obtain ⟨_, _, _, _⟩ := X3.cs
  go_upto_region 5 with (go_at_call 6; refine (CA.out _ B3).mono ?_; rintro e W4 ⟨a4, c4, rfl, s4, b4⟩)
  obtain ⟨V4, hV4⟩ : ∃ W, W4.alloc (Obj.cells #[Value.int IntKind.i64 y.k, Value.string y.t, Value.int IntKind.i64 y.n, Value.slice a4 y.ks.length c4] 24) = W := ⟨_, rfl⟩
  have b4' : Below W4.heap.size W4 V4 := by rw [← hV4]; exact bel_a _ _
  have P9 : Bx V4 W4.heap.size y a4 c4 := by rw [← hV4]; exact Bx.new _ _ _ _
  have LY4 := s4.lat.bel b4'
  have S4 := (S3.keep (fun j _ hj => b4.block j hj)).keep (fun j _ hj => b4'.block j hj)
  have X4 := (X3.bel b4).bel b4'
  have Q4 := (Q3.bel b4).bel b4'
  have P4 := (P7.bel b4).bel b4'
  have LB4 := (LB3.bel b4).bel b4'
  have B4 := nx.out _ _ (nx.out _ _ B3 b4) b4'
  have n4 : V3.heap.size ≤ W4.heap.size := b4.size
  have n4' : W4.heap.size < V4.heap.size := P9.lt
  rw [hV4]
  clear hV4 X3 Q3 LB3 B3 b4 b4' s4 P7 S3 CA
  generalize W4.heap.size = p9 at *
  generalize V3.heap.size = n3s at *
  go_upto_region 7 with fail
  have B5 := B4
  have X5 := X4
  have Q5 := Q4
  have P5 := P9
  have LB5 := LB4
  have LY5 := LY4
  obtain ⟨W5, hW5⟩ : ∃ W, V4 = W := ⟨_, rfl⟩
  rw [hW5] at B5 X5 Q5 P5 LB5 LY5 ⊢
  clear hW5 X4 Q4 P9 LB4 LY4 B4 S4 P4 SY SZ
  go_cut [11, 12] (fun u1 u2 W => ∃ p a c S, u1 = .pointer (some ⟨p, 0, none⟩) ∧ u2 = .bool false ∧ OneS W5 z p a c S W)
  case first =>
    refine repl7 x z false ax cx w.heap.size W5 X5 (fun W b => CR.out W (nx.out _ _ B5 b)) ?_
    intro p a c S W T
    dsimp only [fr7]
    go_wp2
    go_meet
    exact ⟨p, a, c, S, rfl, rfl, T⟩
  obtain ⟨p11, a11, c11, S11, rfl, rfl, T11⟩ := hcut
  have B6 := nx.out _ _ B5 T11.bel
  have X6 := X5.bel T11.bel
  have Q6 := Q5.bel T11.bel
  have P6 := P5.bel T11.bel
  have LB6 := LB5.bel T11.bel
  have LY6 := LY5.bel T11.bel
  have m5 := P5.lt
  have m6 : W5.heap.size ≤ wc.heap.size := T11.bel.size
  obtain ⟨K6, L6, _, lo6, SB6⟩ := T11
  have m6' : n3s ≤ W5.heap.size := by omega
  have m6'' : n2 ≤ W5.heap.size := by omega
  clear B5 X5 Q5 P5 LB5 LY5
  obtain ⟨W6, hW6⟩ : ∃ W, wc = W := ⟨_, rfl⟩
  rw [hW6] at B6 X6 Q6 P6 LB6 LY6 K6 L6 SB6 m6 ⊢
  clear hW6
  go_upto_region 8 with fail
  go_cut [13, 14] (fun u1 u2 W => ∃ p a c S, u1 = .pointer (some ⟨p, 0, none⟩) ∧ u2 = .bool false ∧ OneS W6 z p a c S W)
  case first =>
    refine repl8 x z false ax cx w.heap.size W6 X6 (fun W b => CR.out W (nx.out _ _ B6 b)) ?_
    intro p a c S W T
    dsimp only [fr8]
    go_wp2
    go_meet
    exact ⟨p, a, c, S, rfl, rfl, T⟩
  obtain ⟨p13, a13, c13, S13, rfl, rfl, T13⟩ := hcut
  have B7 := nx.out _ _ B6 T13.bel
  have X7 := X6.bel T13.bel
  have Q7 := Q6.bel T13.bel
  have P7 := P6.bel T13.bel
  have LB7 := LB6.bel T13.bel
  have LY7 := LY6.bel T13.bel
  have K7 := K6.bel T13.bel
  have L7 := L6.keep (fun j _ hj => T13.bel.block j hj)
  have m7 := T13.bel.size
  have k6 := K6.lt
  obtain ⟨Z7, LZ7, _, lo7, SB7⟩ := T13
  have LZ7 := (LZ7.lat).mono (fun j hj => (SB7 j hj).1)
  clear B6 X6 Q6 P6 LB6 LY6 K6 L6 CR SB7
  obtain ⟨W7, hW7⟩ : ∃ W, wc = W := ⟨_, rfl⟩
  rw [hW7] at B7 X7 Q7 P7 LB7 LY7 K7 L7 Z7 LZ7 m7 ⊢
  clear hW7
  go_upto_region 16 with fail
  have B8 := B7
  have X8 := X7
  have Q8 := Q7
  have P8 := P7
  have Z8 := Z7
  have LB8 := LB7
  have LY8 := LY7
  have LZ8 := LZ7
  obtain ⟨W8, hW8⟩ : ∃ W, W7 = W := ⟨_, rfl⟩
  rw [hW8] at B8 X8 Q8 P8 Z8 LB8 LY8 LZ8 ⊢
  clear hW8 B7 X7 Q7 P7 Z7 LB7 LY7 LZ7 K7 L7
  obtain ⟨V9, hV9⟩ : ∃ W, (W8.alloc (Obj.cells #[Value.int IntKind.i64 0, Value.string { data := #[] }, Value.int IntKind.i64 0, Value.slice none 0 0] 24)).alloc (Obj.cells #[Value.int IntKind.i64 0, Value.string { data := #[] }, Value.int IntKind.i64 0, Value.slice none 0 0] 24) = W := ⟨_, rfl⟩
  have b9 : Below W8.heap.size W8 V9 := by rw [← hV9]; exact (bel_a _ _).alloc (by simp) _
  have z15 : V9.heap[W8.heap.size]? = some cellsZ := by rw [← hV9]; exact hold _ (by simp) (hnew _ rfl)
  have z16 : V9.heap[W8.heap.size + 1]? = some cellsZ := by rw [← hV9]; exact hnew _ (by simp)
  have X9 := X8.bel b9
  have Q9 := Q8.bel b9
  have P9 := P8.bel b9
  have Z9 := Z8.bel b9
  have LB9 := LB8.bel b9
  have LY9 := LY8.bel b9
  have LZ9 := LZ8.bel b9
  have B9 := nx.out _ _ B8 b9
  have m9 : W8.heap.size + 1 < V9.heap.size := (Array.getElem?_eq_some_iff.1 z16).1
  rw [hV9]
  clear hV9 X8 Q8 P8 Z8 LB8 LY8 LZ8 B8 b9
  generalize W8.heap.size = p15 at *
  obtain ⟨rfl, rfl⟩ := HN.out
  have F15' : Bx V9 p15 zN none 0 := ⟨z15⟩
  have F16 : Bx V9 (p15 + 1) zN none 0 := ⟨z16⟩
  have LF : LAt V9 (fun _ => True) (.slice none 0 0) [] := .nil _ _
  have LW13 : LAt V9 (fun _ => True) (.slice none 0 0) [] := .nil _ _
  obtain ⟨V13, hV13⟩ : ∃ W, V9 = W := ⟨_, rfl⟩
  rw [hV13] at X9 Q9 P9 Z9 LB9 LY9 LZ9 B9 F15' F16 LF LW13 ⊢
  have X13 := X9
  have Q13 := Q9
  have P13 := P9
  have Z13 := Z9
  have LB13 := LB9
  have LY13 := LY9
  have LZ13 := LZ9
  have B13 := B9
  clear hV13 X9 Q9 P9 Z9 LB9 LY9 LZ9 B9 z15 z16 HN
  obtain ⟨_, _, _, _⟩ := Q13.cs
  obtain ⟨_, _, _, _⟩ := X13.cs
  have ky : Hid (∀ W', Below V13.heap.size V13 W' → (W'.cell? ⟨p9, 0, none⟩ = some (.int .i64 zN.k) ∧ W'.cell? ⟨p9, 1, none⟩ = some (.string zN.t) ∧ W'.cell? ⟨p9, 2, none⟩ = some (.int .i64 zN.n) ∧ W'.cell? ⟨p9, 3, none⟩ = some (.slice a4 zN.ks.length c4)) ∧ (W'.cell? ⟨p15 + 1, 0, none⟩ = some (.int .i64 zN.k) ∧ W'.cell? ⟨p15 + 1, 1, none⟩ = some (.string zN.t) ∧ W'.cell? ⟨p15 + 1, 2, none⟩ = some (.int .i64 zN.n) ∧ W'.cell? ⟨p15 + 1, 3, none⟩ = some (.slice none zN.ks.length 0))) := fun W' b => ⟨(P13.bel b).cs, (F16.bel b).cs⟩
  have kz : Hid (∀ W', Below V13.heap.size V13 W' → (W'.cell? ⟨p13, 0, none⟩ = some (.int .i64 zN.k) ∧ W'.cell? ⟨p13, 1, none⟩ = some (.string zN.t) ∧ W'.cell? ⟨p13, 2, none⟩ = some (.int .i64 zN.n) ∧ W'.cell? ⟨p13, 3, none⟩ = some (.slice a13 zN.ks.length c13)) ∧ (W'.cell? ⟨p15, 0, none⟩ = some (.int .i64 zN.k) ∧ W'.cell? ⟨p15, 1, none⟩ = some (.string zN.t) ∧ W'.cell? ⟨p15, 2, none⟩ = some (.int .i64 zN.n) ∧ W'.cell? ⟨p15, 3, none⟩ = some (.slice none zN.ks.length 0))) := fun W' b => ⟨(Z13.bel b).cs, (F15'.bel b).cs⟩
  have t1 : True := trivial
  have t2 : True := trivial
  clear P13 Z13 F15' F16
  go_wp2_with (first
    | (go_at_call 11; have _t := t1; refine (EX.out _ _ _ _ B13 LB13).mono ?_; rintro e W14 ⟨rfl, b14⟩; have B14 := nx.out _ _ B13 b14; obtain ⟨⟨_, _, _, _⟩, ⟨_, _, _, _⟩⟩ := ky.out _ b14; have LY14 := LY13.bel b14; have LF14 := LF.bel b14; clear t1)
    | (go_at_call 11; have _t := t2; refine (EY.out _ _ _ _ _ _ _ LY14 LF14).mono ?_; rintro e W15 ⟨rfl, b15⟩; have B15 := nx.out _ _ B14 b15; have d15 : Below V13.heap.size V13 W15 := b14.trans (b15.mono b14.size); obtain ⟨⟨_, _, _, _⟩, ⟨_, _, _, _⟩⟩ := kz.out _ d15; have LZ15 := LZ13.bel d15; have LW15 := LW13.bel d15; clear t2)
    | (go_at_call 11; refine (EZ.out _ _ _ _ _ _ _ LZ15 LW15).mono ?_; rintro e W16 ⟨rfl, b16⟩; have B16 := nx.out _ _ B15 b16)
    | (go_at_call 12; refine (AW.out _ B16).mono ?_; rintro e W17 ⟨rfl, b17⟩; have B17 := nx.out _ _ B16 b17))
  all_goals
    go_ret
    exact ⟨rfl, B17⟩
end Go.Proofs.YtggahoefbcnaiabDoor.Own
namespace Go.Proofs.YtggahoefbcnaiabDoor.Own
open Go.RowKit
theorem walk (x : Nd) (vx : Value) (i : Int) (w : World) (hx : LAt w (fun b => b < w.heap.size) vx x.ks) (zx : x.size ≤ 1048576) (tx : ∀ z ∈ x.flat, z.t.size ≤ 1048576) (_hi0 : -9223372036854775808 ≤ i) (_hi1 : i ≤ 9223372036854775807) (he : WEnv w) :
    Calls Tryd.prog 3 #[x.v vx, .int .i64 i] w fun e w' => e = .returned (.bool true) ∧ Below w.heap.size w w' := by
  by_cases h : i < 0 ∨ (x.flat.length : Int) ≤ i
  · exact walk_out x vx i w hx zx tx he h
  · have := walk_in x vx i.toNat w hx zx tx he (by omega)
    rwa [show ((i.toNat : Nat) : Int) = i by omega] at this
end Go.Proofs.YtggahoefbcnaiabDoor.Own
