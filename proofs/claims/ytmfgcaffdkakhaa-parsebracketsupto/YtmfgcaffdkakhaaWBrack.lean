/- Own text. ParseBrackets: the walk. -/
import Derived.Test.YtmfgcaffdkakhaaUU
import Derived.Test.YtmfgcaffdkakhaaB4
import Derived.Test.YtmfgcaffdkakhaaM6
import Derived.Test.YtmfgcaffdkakhaaM8
namespace Go.Proofs.Ytmfgcaffdkakhaa
open Go.RowKit
set_option linter.unusedVariables false
set_option linter.unusedSimpArgs false
set_option maxRecDepth 100000

theorem lex_bounds2 (s : ByteArray) (hs : s.size ≤ 1048600) : ∀ ts, lexL 0 s.data.toList true = .ok ts → ts.length ≤ 4194304 ∧ ∀ x ∈ ts, x.1.2.1.length ≤ 4194304 := by
  intro ts h
  have e : s.data.toList.length = s.size := rfl
  obtain ⟨h1, h2⟩ := lex_said _ 0 _ true ts (Nat.le_refl _) h
  refine ⟨by omega, fun x hx => ?_⟩
  have := (h2 x.1 (List.mem_map.2 ⟨x, hx, rfl⟩)).1
  omega
/-- what the two answers have to do with one another. -/
def Pair (n : Nat) (r r' : Fc) : Prop := r.e = 0 → r.p = n → r'.e ≠ 2 → r'.e = 0 ∧ r'.p = r.p + 2 ∧ r'.x = r.x
theorem pair_of {L M : List Tok} {F : List Tok → Nat → Nat → Nat → Rs Nd} (h : ∀ x, F L (fuelL L) 0 0 = .ok x L.length → F M (fuelL M) 0 0 = .ok x (L.length + 2) ∨ ∃ p, F M (fuelL M) 0 0 = .bad p 2) (h0 : ∀ p, F L (fuelL L) 0 0 ≠ .bad p 0) : Pair L.length (readP L (F L (fuelL L)) 0) (readP M (F M (fuelL M)) 0) := by
  rw [read0, read0]
  intro h1 h2 h3
  cases e : F L (fuelL L) 0 0 with
  | bad p er =>
    rw [e] at h1
    have : er = 0 := h1
    subst this
    exact absurd e (h0 p)
  | ok x b =>
    rw [e] at h2
    have : b = L.length := h2
    subst this
    rcases h x e with h4 | ⟨p, h4⟩
    · rw [h4]
      exact ⟨rfl, rfl, rfl⟩
    · rw [h4] at h3
      exact absurd rfl h3
theorem cat_br (s : ByteArray) : ((⟨#[40]⟩ : ByteArray) ++ s ++ ⟨#[10, 41]⟩).data.toList = 40 :: (s.data.toList ++ [10, 41]) := by
  simp [ByteArray.data_append]
theorem cat_size (s : ByteArray) : ((⟨#[40]⟩ : ByteArray) ++ s ++ ⟨#[10, 41]⟩).size = s.size + 3 := by
  have := congrArg List.length (cat_br s)
  simp only [List.length_cons, List.length_append, List.length_nil] at this
  have e : ∀ x : ByteArray, x.data.toList.length = x.size := fun x => rfl
  rw [e, e] at this
  omega
theorem nofuel_expr (L : List Tok) : ∀ p, exprF L (fuelL L) 0 0 ≠ .bad p 0 := ((gd_all L (fuelL L)).expr' 0 0 (Nat.zero_le _) (fuel_ok L 0 0 20 (by omega))).1
theorem nofuel_type (L : List Tok) : ∀ p, typeF L (fuelL L) 0 0 ≠ .bad p 0 := ((gd_all L (fuelL L)).type' 0 0 (Nat.zero_le _) (fuel_ok L 0 0 20 (by omega))).1
theorem tok_count (sc : Bool) : ∀ (m a : Nat) (l : Bs) (ts : List (Tk × Nat)), l.length ≤ m → lexL a l sc = .ok ts → ts.length ≤ l.length := by
  intro m
  induction m with
  | zero =>
    intro a l ts hm h
    obtain ⟨h1, h2⟩ := lex_step h
    rcases h2 with ⟨h2, rfl⟩ | ⟨y, ts', h2, _⟩
    · simp
    · exact absurd (List.drop_eq_nil_of_le (by omega)) h2
  | succ m ih =>
    intro a l ts hm h
    obtain ⟨h1, h2⟩ := lex_step h
    rcases h2 with ⟨h2, rfl⟩ | ⟨x, ts', h2, h3, h4, rfl⟩
    · simp
    · have hlen := next_len h2 h3
      simp only [List.length_drop] at hlen
      have := ih _ _ _ (by simp; omega) h4
      simp only [List.length_drop, List.length_cons] at this ⊢
      omega
theorem src_count (s : Bs) : (srcT s).length ≤ s.length := by
  unfold srcT
  split
  · rename_i ts h
    simpa using tok_count true s.length 0 s ts (Nat.le_refl _) h
  · simp
theorem face_size {L : List Tok} {r : Rs Nd} (h : Zg (fun x b => x.size + 2 * 0 ≤ 2 * b) r) (hb : Bd L r) (hL : L.length ≤ 2000000) : (faceR r).x.size ≤ 4194304 := by
  cases r with
  | ok x b =>
    have h1 := h x b rfl
    have h2 : b ≤ L.length := hb
    show x.size ≤ _
    omega
  | bad p e =>
    show zeroNd.size ≤ _
    decide
theorem none_expr : exprF [] (fuelL []) 0 0 = .bad 0 60 := by
  obtain ⟨g, hg⟩ : ∃ g, fuelL [] = g + 1 := ⟨fuelL [] - 1, by unfold fuelL; simp⟩
  rw [hg, exprF, beginR, if_pos (by simp)]
  rfl
theorem none_type : typeF [] (fuelL []) 0 0 = .bad 0 60 := by
  obtain ⟨g, hg⟩ : ∃ g, fuelL [] = g + 1 := ⟨fuelL [] - 1, by unfold fuelL; simp⟩
  rw [hg, typeF, beginR, if_pos (by simp)]
  rfl
theorem br_pairs (s : Bs) : Pair (srcT s).length (readP (srcT s) (exprF (srcT s) (fuelL (srcT s))) 0) (readP (srcT (40 :: (s ++ [10, 41]))) (exprF (srcT (40 :: (s ++ [10, 41]))) (fuelL (srcT (40 :: (s ++ [10, 41]))))) 0) ∧
    Pair (srcT s).length (readP (srcT s) (typeF (srcT s) (fuelL (srcT s))) 0) (readP (srcT (40 :: (s ++ [10, 41]))) (typeF (srcT (40 :: (s ++ [10, 41]))) (fuelL (srcT (40 :: (s ++ [10, 41]))))) 0) := by
  cases h : lexL 0 s true with
  | error e =>
    have e0 : srcT s = [] := by unfold srcT; rw [h]
    rw [e0]
    constructor
    · intro h1
      rw [read0] at h1
      rw [none_expr] at h1
      cases h1
    · intro h1
      rw [read0] at h1
      rw [none_type] at h1
      cases h1
  | ok ts =>
    obtain ⟨hB, h0⟩ := src_br h
    exact ⟨pair_of (F := exprF) (fun x hx => br_expr hB h0 hx) (nofuel_expr _), pair_of (F := typeF) (fun x hx => br_type hB h0 hx) (nofuel_type _)⟩
set_option maxHeartbeats 4000000 in
theorem walkBrack (s : ByteArray) (w : World) (hs : s.size ≤ 1048576) :
    Calls Try.prog 3 #[.string s] w fun e w' => e = .returned (.bool true) ∧ Below w.heap.size w w' := by
  have T1 := fun W => tokens_any s W (by omega) (lex_bounds2 s (by omega))
  have T2 := fun W => tokens_any (⟨#[40]⟩ ++ s ++ ⟨#[10, 41]⟩) W (by rw [cat_size]; omega) (lex_bounds2 _ (by rw [cat_size]; omega))
  rw [cat_br] at T2
  obtain ⟨PE, PT⟩ := br_pairs s.data.toList
  have n1 := src_count s.data.toList
  have n2 := src_count (40 :: (s.data.toList ++ [10, 41]))
  have el : s.data.toList.length = s.size := rfl
  simp only [List.length_cons, List.length_append, List.length_nil] at n2
  have SU := fun W => sure_any W
  have FE : Hid (∀ (L : List Tok) (W : World) (v : Value), TkV W v L → Calls Try.prog 6 #[v, .int .i64 0] W (AnsF W (readP L (exprF L (fuelL L)) 0))) := fun L W v h => faceExpr L W v 0 h (by omega)
  have FT : Hid (∀ (L : List Tok) (W : World) (v : Value), TkV W v L → Calls Try.prog 9 #[v, .int .i64 0] W (AnsF W (readP L (typeF L (fuelL L)) 0))) := fun L W v h => faceType L W v 0 h (by omega)
  have SE : ∀ L : List Tok, L.length ≤ 2000000 → (readP L (exprF L (fuelL L)) 0).x.size ≤ 4194304 := fun L hL => by rw [read0]; exact face_size ((sz_all L _).expr' 0 0) ((bd_all L _).expr' 0 0 (Nat.zero_le _)) hL
  have ST : ∀ L : List Tok, L.length ≤ 2000000 → (readP L (typeF L (fuelL L)) 0).x.size ≤ 4194304 := fun L hL => by rw [read0]; exact face_size ((sz_all L _).type' 0 0) ((bd_all L _).type' 0 0 (Nat.zero_le _)) hL
  have z1 := SE (srcT s.data.toList) (by omega)
  have z2 := SE (srcT (40 :: (s.data.toList ++ [10, 41]))) (by omega)
  have z3 := ST (srcT s.data.toList) (by omega)
  have z4 := ST (srcT (40 :: (s.data.toList ++ [10, 41]))) (by omega)
  have hL : (srcT s.data.toList).length ≤ 1048576 := by omega
  clear SE ST n1 n2 el
  generalize srcT s.data.toList = L at *
  generalize srcT (40 :: (s.data.toList ++ [10, 41])) = M at *
  go_enter Try.func3, Try.ntmps3
  go_wp2_with fail
  go_at_call 7
  refine (T1 _).mono ?_
  rintro e W1 ⟨⟨v1, rfl, t1⟩, b1⟩
  go_wp2_with fail
  go_at_call 6
  refine (FE.out _ _ _ t1).mono ?_
  rintro e W2 ⟨ad2, c2, rfl, l2, b2⟩
  generalize readP L (exprF L (fuelL L)) 0 = r1 at *
  go_wp2_with fail
  go_at_call 7
  refine (T2 _).mono ?_
  rintro e W3 ⟨⟨v3, rfl, t3⟩, b3⟩
  go_wp2_with fail
  go_at_call 6
  refine (FE.out _ _ _ t3).mono ?_
  rintro e W4 ⟨ad4, c4, rfl, l4, b4⟩
  generalize readP M (exprF M (fuelL M)) 0 = r2 at *
  have s1 := b1.size
  have s2 := b2.size
  have s3 := b3.size
  have s4 := b4.size
  simp at s3
  obtain ⟨V0, hV0⟩ : ∃ V, W4.alloc (Obj.cells #[Value.int IntKind.i64 r2.x.k, Value.string r2.x.t, Value.int IntKind.i64 r2.x.n, Value.slice ad4 r2.x.ks.length c4] 24) = V := ⟨_, rfl⟩
  have HA : Hid (∀ W, Below V0.heap.size V0 W → W.heap[W2.heap.size]? = some (.cells #[Value.int IntKind.i64 r1.x.k, Value.string r1.x.t, Value.int IntKind.i64 r1.x.n, Value.slice ad2 r1.x.ks.length c2] 24 (0, 0)) ∧ W.heap[W4.heap.size]? = some (.cells #[Value.int IntKind.i64 r2.x.k, Value.string r2.x.t, Value.int IntKind.i64 r2.x.n, Value.slice ad4 r2.x.ks.length c4] 24 (0, 0)) ∧ LAt W (fun b => W1.heap.size ≤ b) (.slice ad2 r1.x.ks.length c2) r1.x.ks ∧ LAt W (fun b => W3.heap.size ≤ b) (.slice ad4 r2.x.ks.length c4) r2.x.ks ∧ Below w.heap.size w W ∧ W4.heap.size < W.heap.size) := by
    have bn4 := (Below.refl W4.heap.size W4).alloc (Nat.le_refl _) (Obj.cells #[Value.int IntKind.i64 r2.x.k, Value.string r2.x.t, Value.int IntKind.i64 r2.x.n, Value.slice ad4 r2.x.ks.length c4] 24)
    have bn2 := (Below.refl W2.heap.size W2).alloc (Nat.le_refl _) (Obj.cells #[Value.int IntKind.i64 r1.x.k, Value.string r1.x.t, Value.int IntKind.i64 r1.x.n, Value.slice ad2 r1.x.ks.length c2] 24)
    rw [hV0] at bn4
    intro W bW
    have zz : W4.heap.size + 1 = V0.heap.size := by rw [← hV0]; simp
    have m4 : V0.heap[W4.heap.size]? = some (.cells #[Value.int IntKind.i64 r2.x.k, Value.string r2.x.t, Value.int IntKind.i64 r2.x.n, Value.slice ad4 r2.x.ks.length c4] 24 (0, 0)) := by rw [← hV0]; exact heap_alloc_new W4 _
    have c20 := bn2.trans ((b3.mono (by simp)).trans ((b4.mono (by omega)).trans ((bn4.mono (by omega)).trans (bW.mono (by omega)))))
    refine ⟨?_, (bW.block _ (by omega)).trans m4, l2.bel c20, l4.bel (bn4.trans (bW.mono (by omega))), b1.trans ((b2.mono (by omega)).trans (c20.mono (by omega))), by have := bW.size; omega⟩
    refine (bW.block _ (by omega)).trans ((bn4.block _ (by omega)).trans ((b4.block _ (by omega)).trans ((b3.block _ (by simp)).trans (heap_alloc_new W2 _))))
  have lt24 : Hid (W2.heap.size < W4.heap.size ∧ w.heap.size ≤ W2.heap.size) := ⟨by omega, by omega⟩
  clear b1 b2 b3 b4 l2 l4 t1 t3 s1 s2 s3 s4
  have PE : Hid (Pair L.length r1 r2) := PE
  have PT : Hid (Pair L.length (readP L (typeF L (fuelL L)) 0) (readP M (typeF M (fuelL M)) 0)) := PT
  by_cases he : r1.e = 0
  · have he' : (r1.e == 0) = true := by rw [he]; rfl
    go_wp2_with fail
    go_at_call 7
    refine (T1 _).mono ?_
    rintro e W5 ⟨⟨v5, rfl, t5⟩, bV⟩
    obtain ⟨ta, tc, rfl⟩ : ∃ ta tc, v5 = .slice ta L.length tc := by
      obtain ⟨⟨ta, tc, _, _, e, _⟩, _⟩ := t5
      exact ⟨ta, tc, e⟩
    clear t5
    by_cases hp : r1.p = L.length
    · have hp' : ((r1.p : Int) == (L.length : Int)) = true := by rw [hp]; simp
      by_cases hf : r2.e = 2
      · have hf' : (r2.e != 2) = false := by rw [hf]; rfl
        clear PE hV0
        obtain ⟨mA, mB, _, _, BW, lt4⟩ := HA.out _ bV
        obtain ⟨lt2, ltw⟩ := lt24.out
        clear HA lt24
        go_wp2_with fail
        go_at_call 7
        refine (T1 _).mono ?_
        rintro e U1 ⟨⟨u1, rfl, t6⟩, d1⟩
        go_wp2_with fail
        go_at_call 9
        refine (FT.out _ _ _ t6).mono ?_
        rintro e U2 ⟨ad6, c6, rfl, l6, d2⟩
        generalize readP L (typeF L (fuelL L)) 0 = r3 at *
        have e1 := d1.size
        have e2 := d2.size
        have nA : U2.heap[W2.heap.size]? = some (.cells #[Value.int IntKind.i64 r1.x.k, Value.string r1.x.t, Value.int IntKind.i64 r1.x.n, Value.slice ad2 r1.x.ks.length c2] 24 (0, 0)) := (d2.block _ (by omega)).trans ((d1.block _ (by omega)).trans mA)
        have nB : U2.heap[W4.heap.size]? = some (.cells #[Value.int IntKind.i64 r2.x.k, Value.string r2.x.t, Value.int IntKind.i64 r2.x.n, Value.slice ad4 r2.x.ks.length c4] 24 (0, 0)) := (d2.block _ (by omega)).trans ((d1.block _ (by omega)).trans mB)
        have BU : Below w.heap.size w U2 := BW.trans ((d1.mono BW.size).trans (d2.mono (by have := BW.size; omega)))
        obtain ⟨U3, hU3⟩ : ∃ U, ((((U2.setCell ⟨W2.heap.size, 0, none⟩ (Value.int IntKind.i64 r3.x.k)).setCell ⟨W2.heap.size, 1, none⟩ (Value.string r3.x.t)).setCell ⟨W2.heap.size, 2, none⟩ (Value.int IntKind.i64 r3.x.n)).setCell ⟨W2.heap.size, 3, none⟩ (Value.slice ad6 r3.x.ks.length c6)) = U := ⟨_, rfl⟩
        have k1 : U3.heap[W2.heap.size]? = some (.cells #[Value.int IntKind.i64 r3.x.k, Value.string r3.x.t, Value.int IntKind.i64 r3.x.n, Value.slice ad6 r3.x.ks.length c6] 24 (0, 0)) := by rw [← hU3]; exact t4_set _ _ _ _ nA
        have k2 : ∀ j, j ≠ W2.heap.size → U3.heap[j]? = U2.heap[j]? := fun j hj => by rw [← hU3]; exact blk_set4 hj _ _ _ _
        have k3 : U3.heap.size = U2.heap.size := by rw [← hU3]; simp [World.setCell]
        have l7 : LAt U3 (fun b => U1.heap.size ≤ b) (.slice ad6 r3.x.ks.length c6) r3.x.ks := by rw [← hU3]; exact l6.set4 (by omega) (Nat.le_refl _) _ _ _ _
        have BU3 : Below w.heap.size w U3 := by rw [← hU3]; exact (((BU.setCell ltw _).setCell ltw _).setCell ltw _).setCell ltw _
        have HX : Hid (U3.heap.size = U2.heap.size ∧ U1.heap.size ≤ U2.heap.size ∧ W4.heap.size < U1.heap.size ∧ W2.heap.size < W4.heap.size ∧ w.heap.size ≤ W2.heap.size) := ⟨k3, e2, by omega, lt2, ltw⟩
        have HK : Hid (U3.heap[W2.heap.size]? = some (.cells #[Value.int IntKind.i64 r3.x.k, Value.string r3.x.t, Value.int IntKind.i64 r3.x.n, Value.slice ad6 r3.x.ks.length c6] 24 (0, 0)) ∧ U3.heap[W4.heap.size]? = some (.cells #[Value.int IntKind.i64 r2.x.k, Value.string r2.x.t, Value.int IntKind.i64 r2.x.n, Value.slice ad4 r2.x.ks.length c4] 24 (0, 0)) ∧ Below w.heap.size w U3) := ⟨k1, (k2 _ (by omega)).trans nB, BU3⟩
        obtain ⟨⟨_, _, _, _⟩, _, _, _, _⟩ := t4 nA
        clear mA mB BW nB BU k1 k2 k3 BU3 d1 d2 e1 e2 l6 t6 nA lt4 lt2 ltw bV
        go_wp2_with fail
        go_at_call 7
        refine (T2 _).mono ?_
        rintro e U4 ⟨⟨u4, rfl, t8⟩, d4⟩
        go_wp2_with fail
        go_at_call 9
        refine (FT.out _ _ _ t8).mono ?_
        rintro e U5 ⟨ad8, c8, rfl, l8, d5⟩
        generalize readP M (typeF M (fuelL M)) 0 = r4 at *
        obtain ⟨x1, x2, x3, lt2, ltw⟩ := HX.out
        obtain ⟨k1, k4, BU3⟩ := HK.out
        have e4 := d4.size
        have e5 := d5.size
        have nB : U5.heap[W4.heap.size]? = some (.cells #[Value.int IntKind.i64 r2.x.k, Value.string r2.x.t, Value.int IntKind.i64 r2.x.n, Value.slice ad4 r2.x.ks.length c4] 24 (0, 0)) := (d5.block _ (by omega)).trans ((d4.block _ (by omega)).trans k4)
        have nA : U5.heap[W2.heap.size]? = some (.cells #[Value.int IntKind.i64 r3.x.k, Value.string r3.x.t, Value.int IntKind.i64 r3.x.n, Value.slice ad6 r3.x.ks.length c6] 24 (0, 0)) := (d5.block _ (by omega)).trans ((d4.block _ (by omega)).trans k1)
        have l9 := l7.bel (d4.trans (d5.mono e4))
        obtain ⟨U6, hU6⟩ : ∃ U, ((((U5.setCell ⟨W4.heap.size, 0, none⟩ (Value.int IntKind.i64 r4.x.k)).setCell ⟨W4.heap.size, 1, none⟩ (Value.string r4.x.t)).setCell ⟨W4.heap.size, 2, none⟩ (Value.int IntKind.i64 r4.x.n)).setCell ⟨W4.heap.size, 3, none⟩ (Value.slice ad8 r4.x.ks.length c8)) = U := ⟨_, rfl⟩
        have o6 : ∀ j, j ≠ W4.heap.size → U6.heap[j]? = U5.heap[j]? := fun j hj => by rw [← hU6]; exact blk_set4 hj _ _ _ _
        have z6 : U6.heap.size = U5.heap.size := by rw [← hU6]; simp [World.setCell]
        have HF : Hid (∀ W, Below U6.heap.size U6 W → W.heap[W2.heap.size]? = some (.cells #[Value.int IntKind.i64 r3.x.k, Value.string r3.x.t, Value.int IntKind.i64 r3.x.n, Value.slice ad6 r3.x.ks.length c6] 24 (0, 0)) ∧ W.heap[W4.heap.size]? = some (.cells #[Value.int IntKind.i64 r4.x.k, Value.string r4.x.t, Value.int IntKind.i64 r4.x.n, Value.slice ad8 r4.x.ks.length c8] 24 (0, 0)) ∧ LAt W (fun b => U1.heap.size ≤ b) (.slice ad6 r3.x.ks.length c6) r3.x.ks ∧ LAt W (fun b => U4.heap.size ≤ b) (.slice ad8 r4.x.ks.length c8) r4.x.ks ∧ Below w.heap.size w W) := by
          have lw4 : w.heap.size ≤ W4.heap.size := by omega
          have BU6 : Below w.heap.size w U6 := by
            rw [← hU6]
            have q := BU3.trans ((d4.mono BU3.size).trans (d5.mono (by have := BU3.size; omega)))
            exact (((q.setCell lw4 _).setCell lw4 _).setCell lw4 _).setCell lw4 _
          have i4 : U6.heap[W4.heap.size]? = some (.cells #[Value.int IntKind.i64 r4.x.k, Value.string r4.x.t, Value.int IntKind.i64 r4.x.n, Value.slice ad8 r4.x.ks.length c8] 24 (0, 0)) := by rw [← hU6]; exact t4_set _ _ _ _ nB
          have l10 : LAt U6 (fun b => U4.heap.size ≤ b) (.slice ad8 r4.x.ks.length c8) r4.x.ks := by rw [← hU6]; exact l8.set4 (by omega) (Nat.le_refl _) _ _ _ _
          have l11 : LAt U6 (fun b => U1.heap.size ≤ b) (.slice ad6 r3.x.ks.length c6) r3.x.ks := by rw [← hU6]; exact l9.set4 (by omega) (Nat.le_refl _) _ _ _ _
          intro W bW
          exact ⟨(bW.block _ (by omega)).trans ((o6 _ (by omega)).trans nA), (bW.block _ (by omega)).trans i4, l11.bel bW, l10.bel bW, BU6.trans (bW.mono BU6.size)⟩
        obtain ⟨⟨_, _, _, _⟩, _, _, _, _⟩ := t4 nB
        clear HX HK o6 z6 l9 l8 l7 d4 d5 e4 e5 nB nA k1 k4 BU3 x1 x2 x3 lt2 ltw t8
        by_cases ge : r3.e = 0
        · have ge' : (r3.e == 0) = true := by rw [ge]; rfl
          go_wp2_with fail
          go_at_call 7
          refine (T1 _).mono ?_
          rintro e U7 ⟨⟨u7, rfl, t9⟩, d7⟩
          obtain ⟨tb, tq, rfl⟩ : ∃ tb tq, u7 = .slice tb L.length tq := by
            obtain ⟨⟨ta, tc, _, _, e, _⟩, _⟩ := t9
            exact ⟨ta, tc, e⟩
          obtain ⟨fA, fB, fl, fm, fw⟩ := HF.out _ d7
          have BZ : Hid (Below w.heap.size w U7) := fw
          clear t9 HF
          by_cases gp : r3.p = L.length
          · have gp' : ((r3.p : Int) == (L.length : Int)) = true := by rw [gp]; simp
            by_cases gf : r4.e = 2
            · have gf' : (r4.e != 2) = false := by rw [gf]; rfl
              clear fA fB fl fm fw d7
              go_wp2_with fail
              go_at_call 10
              refine (SU _).mono ?_
              rintro e Z1 ⟨rfl, g1⟩
              have b6 : Hid (Below w.heap.size w Z1) := BZ.out.trans (g1.mono BZ.out.size)
              clear g1
              go_wp2
              go_ret
              exact ⟨rfl, b6.out⟩
            · obtain ⟨h1, h2, h3⟩ := PT.out ge gp gf
              have gf' : (r4.e != 2) = true := by simp [gf]
              have gk : ((r4.p : Int) == (r3.p : Int) + 2) = true := by rw [h2]; simp
              have gz : (r4.e == 0) = true := by rw [h1]; rfl
              have gb : r3.p ≤ 1048576 := by omega
              have SM := rsame_any r3.x r4.x U7 _ _ _ _ fl fm z3 z4
              unfold Nd.v at SM
              obtain ⟨⟨_, _, _, _⟩, _, _, _, _⟩ := t4 fA
              obtain ⟨⟨_, _, _, _⟩, _, _, _, _⟩ := t4 fB
              have h3' : Hid (r3.x = r4.x) := h3.symm
              clear h1 h2 h3 fA fB fl fm fw d7 gf ge gp
              go_wp2_with fail
              go_at_call 8
              refine SM.mono ?_
              rintro e U8 ⟨bb, rfl, hbb, d8⟩
              obtain rfl : bb = true := hbb.2 h3'.out
              have BZ : Hid (Below w.heap.size w U8) := BZ.out.trans (d8.mono BZ.out.size)
              clear d8 hbb SM h3'
              go_wp2_with fail
              go_at_call 10
              refine (SU _).mono ?_
              rintro e Z1 ⟨rfl, g1⟩
              have b6 : Hid (Below w.heap.size w Z1) := BZ.out.trans (g1.mono BZ.out.size)
              clear g1
              go_wp2
              go_ret
              exact ⟨rfl, b6.out⟩
          · have gp' : ((r3.p : Int) == (L.length : Int)) = false := by simp; omega
            clear fA fB fl fm fw d7
            go_wp2_with fail
            go_at_call 10
            refine (SU _).mono ?_
            rintro e Z1 ⟨rfl, g1⟩
            have b6 : Hid (Below w.heap.size w Z1) := BZ.out.trans (g1.mono BZ.out.size)
            clear g1
            go_wp2
            go_ret
            exact ⟨rfl, b6.out⟩
        · have ge' : (r3.e == 0) = false := by simp [ge]
          have BZ : Hid (Below w.heap.size w U6) := (HF.out _ (Below.refl _ _)).2.2.2.2
          clear HF
          go_wp2_with fail
          go_at_call 10
          refine (SU _).mono ?_
          rintro e Z1 ⟨rfl, g1⟩
          have b6 : Hid (Below w.heap.size w Z1) := BZ.out.trans (g1.mono BZ.out.size)
          clear g1
          go_wp2
          go_ret
          exact ⟨rfl, b6.out⟩
      · obtain ⟨h1, h2, h3⟩ := PE.out he hp hf
        have hf' : (r2.e != 2) = true := by simp [hf]
        have hk : ((r2.p : Int) != (r1.p : Int) + 2) = false := by rw [h2]; simp
        have hz : (r2.e != 0) = false := by rw [h1]; rfl
        have hb1 : r1.p ≤ 1048576 := by omega
        obtain ⟨mA, mB, lA, lB, _, _⟩ := HA.out _ bV
        have SM := rsame_any r1.x r2.x W5 _ _ _ _ lA lB z1 z2
        unfold Nd.v at SM
        obtain ⟨⟨_, _, _, _⟩, _, _, _, _⟩ := t4 mA
        obtain ⟨⟨_, _, _, _⟩, _, _, _, _⟩ := t4 mB
        have h3' : Hid (r1.x = r2.x) := h3.symm
        clear h1 h2 h3 mA mB lA lB PE hf he hp hV0
        go_wp2_with fail
        go_at_call 8
        refine SM.mono ?_
        rintro e W6 ⟨bb, rfl, hbb, d8⟩
        obtain rfl : bb = true := hbb.2 h3'.out
        have bV : Below V0.heap.size V0 W6 := bV.trans (d8.mono bV.size)
        clear d8 hbb SM h3'
        obtain ⟨mA, mB, _, _, BW, lt4⟩ := HA.out _ bV
        obtain ⟨lt2, ltw⟩ := lt24.out
        clear HA lt24
        go_wp2_with fail
        go_at_call 7
        refine (T1 _).mono ?_
        rintro e U1 ⟨⟨u1, rfl, t6⟩, d1⟩
        go_wp2_with fail
        go_at_call 9
        refine (FT.out _ _ _ t6).mono ?_
        rintro e U2 ⟨ad6, c6, rfl, l6, d2⟩
        generalize readP L (typeF L (fuelL L)) 0 = r3 at *
        have e1 := d1.size
        have e2 := d2.size
        have nA : U2.heap[W2.heap.size]? = some (.cells #[Value.int IntKind.i64 r1.x.k, Value.string r1.x.t, Value.int IntKind.i64 r1.x.n, Value.slice ad2 r1.x.ks.length c2] 24 (0, 0)) := (d2.block _ (by omega)).trans ((d1.block _ (by omega)).trans mA)
        have nB : U2.heap[W4.heap.size]? = some (.cells #[Value.int IntKind.i64 r2.x.k, Value.string r2.x.t, Value.int IntKind.i64 r2.x.n, Value.slice ad4 r2.x.ks.length c4] 24 (0, 0)) := (d2.block _ (by omega)).trans ((d1.block _ (by omega)).trans mB)
        have BU : Below w.heap.size w U2 := BW.trans ((d1.mono BW.size).trans (d2.mono (by have := BW.size; omega)))
        obtain ⟨U3, hU3⟩ : ∃ U, ((((U2.setCell ⟨W2.heap.size, 0, none⟩ (Value.int IntKind.i64 r3.x.k)).setCell ⟨W2.heap.size, 1, none⟩ (Value.string r3.x.t)).setCell ⟨W2.heap.size, 2, none⟩ (Value.int IntKind.i64 r3.x.n)).setCell ⟨W2.heap.size, 3, none⟩ (Value.slice ad6 r3.x.ks.length c6)) = U := ⟨_, rfl⟩
        have k1 : U3.heap[W2.heap.size]? = some (.cells #[Value.int IntKind.i64 r3.x.k, Value.string r3.x.t, Value.int IntKind.i64 r3.x.n, Value.slice ad6 r3.x.ks.length c6] 24 (0, 0)) := by rw [← hU3]; exact t4_set _ _ _ _ nA
        have k2 : ∀ j, j ≠ W2.heap.size → U3.heap[j]? = U2.heap[j]? := fun j hj => by rw [← hU3]; exact blk_set4 hj _ _ _ _
        have k3 : U3.heap.size = U2.heap.size := by rw [← hU3]; simp [World.setCell]
        have l7 : LAt U3 (fun b => U1.heap.size ≤ b) (.slice ad6 r3.x.ks.length c6) r3.x.ks := by rw [← hU3]; exact l6.set4 (by omega) (Nat.le_refl _) _ _ _ _
        have BU3 : Below w.heap.size w U3 := by rw [← hU3]; exact (((BU.setCell ltw _).setCell ltw _).setCell ltw _).setCell ltw _
        have HX : Hid (U3.heap.size = U2.heap.size ∧ U1.heap.size ≤ U2.heap.size ∧ W4.heap.size < U1.heap.size ∧ W2.heap.size < W4.heap.size ∧ w.heap.size ≤ W2.heap.size) := ⟨k3, e2, by omega, lt2, ltw⟩
        have HK : Hid (U3.heap[W2.heap.size]? = some (.cells #[Value.int IntKind.i64 r3.x.k, Value.string r3.x.t, Value.int IntKind.i64 r3.x.n, Value.slice ad6 r3.x.ks.length c6] 24 (0, 0)) ∧ U3.heap[W4.heap.size]? = some (.cells #[Value.int IntKind.i64 r2.x.k, Value.string r2.x.t, Value.int IntKind.i64 r2.x.n, Value.slice ad4 r2.x.ks.length c4] 24 (0, 0)) ∧ Below w.heap.size w U3) := ⟨k1, (k2 _ (by omega)).trans nB, BU3⟩
        obtain ⟨⟨_, _, _, _⟩, _, _, _, _⟩ := t4 nA
        clear mA mB BW nB BU k1 k2 k3 BU3 d1 d2 e1 e2 l6 t6 nA lt4 lt2 ltw bV
        go_wp2_with fail
        go_at_call 7
        refine (T2 _).mono ?_
        rintro e U4 ⟨⟨u4, rfl, t8⟩, d4⟩
        go_wp2_with fail
        go_at_call 9
        refine (FT.out _ _ _ t8).mono ?_
        rintro e U5 ⟨ad8, c8, rfl, l8, d5⟩
        generalize readP M (typeF M (fuelL M)) 0 = r4 at *
        obtain ⟨x1, x2, x3, lt2, ltw⟩ := HX.out
        obtain ⟨k1, k4, BU3⟩ := HK.out
        have e4 := d4.size
        have e5 := d5.size
        have nB : U5.heap[W4.heap.size]? = some (.cells #[Value.int IntKind.i64 r2.x.k, Value.string r2.x.t, Value.int IntKind.i64 r2.x.n, Value.slice ad4 r2.x.ks.length c4] 24 (0, 0)) := (d5.block _ (by omega)).trans ((d4.block _ (by omega)).trans k4)
        have nA : U5.heap[W2.heap.size]? = some (.cells #[Value.int IntKind.i64 r3.x.k, Value.string r3.x.t, Value.int IntKind.i64 r3.x.n, Value.slice ad6 r3.x.ks.length c6] 24 (0, 0)) := (d5.block _ (by omega)).trans ((d4.block _ (by omega)).trans k1)
        have l9 := l7.bel (d4.trans (d5.mono e4))
        obtain ⟨U6, hU6⟩ : ∃ U, ((((U5.setCell ⟨W4.heap.size, 0, none⟩ (Value.int IntKind.i64 r4.x.k)).setCell ⟨W4.heap.size, 1, none⟩ (Value.string r4.x.t)).setCell ⟨W4.heap.size, 2, none⟩ (Value.int IntKind.i64 r4.x.n)).setCell ⟨W4.heap.size, 3, none⟩ (Value.slice ad8 r4.x.ks.length c8)) = U := ⟨_, rfl⟩
        have o6 : ∀ j, j ≠ W4.heap.size → U6.heap[j]? = U5.heap[j]? := fun j hj => by rw [← hU6]; exact blk_set4 hj _ _ _ _
        have z6 : U6.heap.size = U5.heap.size := by rw [← hU6]; simp [World.setCell]
        have HF : Hid (∀ W, Below U6.heap.size U6 W → W.heap[W2.heap.size]? = some (.cells #[Value.int IntKind.i64 r3.x.k, Value.string r3.x.t, Value.int IntKind.i64 r3.x.n, Value.slice ad6 r3.x.ks.length c6] 24 (0, 0)) ∧ W.heap[W4.heap.size]? = some (.cells #[Value.int IntKind.i64 r4.x.k, Value.string r4.x.t, Value.int IntKind.i64 r4.x.n, Value.slice ad8 r4.x.ks.length c8] 24 (0, 0)) ∧ LAt W (fun b => U1.heap.size ≤ b) (.slice ad6 r3.x.ks.length c6) r3.x.ks ∧ LAt W (fun b => U4.heap.size ≤ b) (.slice ad8 r4.x.ks.length c8) r4.x.ks ∧ Below w.heap.size w W) := by
          have lw4 : w.heap.size ≤ W4.heap.size := by omega
          have BU6 : Below w.heap.size w U6 := by
            rw [← hU6]
            have q := BU3.trans ((d4.mono BU3.size).trans (d5.mono (by have := BU3.size; omega)))
            exact (((q.setCell lw4 _).setCell lw4 _).setCell lw4 _).setCell lw4 _
          have i4 : U6.heap[W4.heap.size]? = some (.cells #[Value.int IntKind.i64 r4.x.k, Value.string r4.x.t, Value.int IntKind.i64 r4.x.n, Value.slice ad8 r4.x.ks.length c8] 24 (0, 0)) := by rw [← hU6]; exact t4_set _ _ _ _ nB
          have l10 : LAt U6 (fun b => U4.heap.size ≤ b) (.slice ad8 r4.x.ks.length c8) r4.x.ks := by rw [← hU6]; exact l8.set4 (by omega) (Nat.le_refl _) _ _ _ _
          have l11 : LAt U6 (fun b => U1.heap.size ≤ b) (.slice ad6 r3.x.ks.length c6) r3.x.ks := by rw [← hU6]; exact l9.set4 (by omega) (Nat.le_refl _) _ _ _ _
          intro W bW
          exact ⟨(bW.block _ (by omega)).trans ((o6 _ (by omega)).trans nA), (bW.block _ (by omega)).trans i4, l11.bel bW, l10.bel bW, BU6.trans (bW.mono BU6.size)⟩
        obtain ⟨⟨_, _, _, _⟩, _, _, _, _⟩ := t4 nB
        clear HX HK o6 z6 l9 l8 l7 d4 d5 e4 e5 nB nA k1 k4 BU3 x1 x2 x3 lt2 ltw t8
        by_cases ge : r3.e = 0
        · have ge' : (r3.e == 0) = true := by rw [ge]; rfl
          go_wp2_with fail
          go_at_call 7
          refine (T1 _).mono ?_
          rintro e U7 ⟨⟨u7, rfl, t9⟩, d7⟩
          obtain ⟨tb, tq, rfl⟩ : ∃ tb tq, u7 = .slice tb L.length tq := by
            obtain ⟨⟨ta, tc, _, _, e, _⟩, _⟩ := t9
            exact ⟨ta, tc, e⟩
          obtain ⟨fA, fB, fl, fm, fw⟩ := HF.out _ d7
          have BZ : Hid (Below w.heap.size w U7) := fw
          clear t9 HF
          by_cases gp : r3.p = L.length
          · have gp' : ((r3.p : Int) == (L.length : Int)) = true := by rw [gp]; simp
            by_cases gf : r4.e = 2
            · have gf' : (r4.e != 2) = false := by rw [gf]; rfl
              clear fA fB fl fm fw d7
              go_wp2_with fail
              go_at_call 10
              refine (SU _).mono ?_
              rintro e Z1 ⟨rfl, g1⟩
              have b6 : Hid (Below w.heap.size w Z1) := BZ.out.trans (g1.mono BZ.out.size)
              clear g1
              go_wp2
              go_ret
              exact ⟨rfl, b6.out⟩
            · obtain ⟨h1, h2, h3⟩ := PT.out ge gp gf
              have gf' : (r4.e != 2) = true := by simp [gf]
              have gk : ((r4.p : Int) == (r3.p : Int) + 2) = true := by rw [h2]; simp
              have gz : (r4.e == 0) = true := by rw [h1]; rfl
              have gb : r3.p ≤ 1048576 := by omega
              have SM := rsame_any r3.x r4.x U7 _ _ _ _ fl fm z3 z4
              unfold Nd.v at SM
              obtain ⟨⟨_, _, _, _⟩, _, _, _, _⟩ := t4 fA
              obtain ⟨⟨_, _, _, _⟩, _, _, _, _⟩ := t4 fB
              have h3' : Hid (r3.x = r4.x) := h3.symm
              clear h1 h2 h3 fA fB fl fm fw d7 gf ge gp
              go_wp2_with fail
              go_at_call 8
              refine SM.mono ?_
              rintro e U8 ⟨bb, rfl, hbb, d8⟩
              obtain rfl : bb = true := hbb.2 h3'.out
              have BZ : Hid (Below w.heap.size w U8) := BZ.out.trans (d8.mono BZ.out.size)
              clear d8 hbb SM h3'
              go_wp2_with fail
              go_at_call 10
              refine (SU _).mono ?_
              rintro e Z1 ⟨rfl, g1⟩
              have b6 : Hid (Below w.heap.size w Z1) := BZ.out.trans (g1.mono BZ.out.size)
              clear g1
              go_wp2
              go_ret
              exact ⟨rfl, b6.out⟩
          · have gp' : ((r3.p : Int) == (L.length : Int)) = false := by simp; omega
            clear fA fB fl fm fw d7
            go_wp2_with fail
            go_at_call 10
            refine (SU _).mono ?_
            rintro e Z1 ⟨rfl, g1⟩
            have b6 : Hid (Below w.heap.size w Z1) := BZ.out.trans (g1.mono BZ.out.size)
            clear g1
            go_wp2
            go_ret
            exact ⟨rfl, b6.out⟩
        · have ge' : (r3.e == 0) = false := by simp [ge]
          have BZ : Hid (Below w.heap.size w U6) := (HF.out _ (Below.refl _ _)).2.2.2.2
          clear HF
          go_wp2_with fail
          go_at_call 10
          refine (SU _).mono ?_
          rintro e Z1 ⟨rfl, g1⟩
          have b6 : Hid (Below w.heap.size w Z1) := BZ.out.trans (g1.mono BZ.out.size)
          clear g1
          go_wp2
          go_ret
          exact ⟨rfl, b6.out⟩
    · have hp' : ((r1.p : Int) == (L.length : Int)) = false := by simp; omega
      clear PE hV0
      obtain ⟨mA, mB, _, _, BW, lt4⟩ := HA.out _ bV
      obtain ⟨lt2, ltw⟩ := lt24.out
      clear HA lt24
      go_wp2_with fail
      go_at_call 7
      refine (T1 _).mono ?_
      rintro e U1 ⟨⟨u1, rfl, t6⟩, d1⟩
      go_wp2_with fail
      go_at_call 9
      refine (FT.out _ _ _ t6).mono ?_
      rintro e U2 ⟨ad6, c6, rfl, l6, d2⟩
      generalize readP L (typeF L (fuelL L)) 0 = r3 at *
      have e1 := d1.size
      have e2 := d2.size
      have nA : U2.heap[W2.heap.size]? = some (.cells #[Value.int IntKind.i64 r1.x.k, Value.string r1.x.t, Value.int IntKind.i64 r1.x.n, Value.slice ad2 r1.x.ks.length c2] 24 (0, 0)) := (d2.block _ (by omega)).trans ((d1.block _ (by omega)).trans mA)
      have nB : U2.heap[W4.heap.size]? = some (.cells #[Value.int IntKind.i64 r2.x.k, Value.string r2.x.t, Value.int IntKind.i64 r2.x.n, Value.slice ad4 r2.x.ks.length c4] 24 (0, 0)) := (d2.block _ (by omega)).trans ((d1.block _ (by omega)).trans mB)
      have BU : Below w.heap.size w U2 := BW.trans ((d1.mono BW.size).trans (d2.mono (by have := BW.size; omega)))
      obtain ⟨U3, hU3⟩ : ∃ U, ((((U2.setCell ⟨W2.heap.size, 0, none⟩ (Value.int IntKind.i64 r3.x.k)).setCell ⟨W2.heap.size, 1, none⟩ (Value.string r3.x.t)).setCell ⟨W2.heap.size, 2, none⟩ (Value.int IntKind.i64 r3.x.n)).setCell ⟨W2.heap.size, 3, none⟩ (Value.slice ad6 r3.x.ks.length c6)) = U := ⟨_, rfl⟩
      have k1 : U3.heap[W2.heap.size]? = some (.cells #[Value.int IntKind.i64 r3.x.k, Value.string r3.x.t, Value.int IntKind.i64 r3.x.n, Value.slice ad6 r3.x.ks.length c6] 24 (0, 0)) := by rw [← hU3]; exact t4_set _ _ _ _ nA
      have k2 : ∀ j, j ≠ W2.heap.size → U3.heap[j]? = U2.heap[j]? := fun j hj => by rw [← hU3]; exact blk_set4 hj _ _ _ _
      have k3 : U3.heap.size = U2.heap.size := by rw [← hU3]; simp [World.setCell]
      have l7 : LAt U3 (fun b => U1.heap.size ≤ b) (.slice ad6 r3.x.ks.length c6) r3.x.ks := by rw [← hU3]; exact l6.set4 (by omega) (Nat.le_refl _) _ _ _ _
      have BU3 : Below w.heap.size w U3 := by rw [← hU3]; exact (((BU.setCell ltw _).setCell ltw _).setCell ltw _).setCell ltw _
      have HX : Hid (U3.heap.size = U2.heap.size ∧ U1.heap.size ≤ U2.heap.size ∧ W4.heap.size < U1.heap.size ∧ W2.heap.size < W4.heap.size ∧ w.heap.size ≤ W2.heap.size) := ⟨k3, e2, by omega, lt2, ltw⟩
      have HK : Hid (U3.heap[W2.heap.size]? = some (.cells #[Value.int IntKind.i64 r3.x.k, Value.string r3.x.t, Value.int IntKind.i64 r3.x.n, Value.slice ad6 r3.x.ks.length c6] 24 (0, 0)) ∧ U3.heap[W4.heap.size]? = some (.cells #[Value.int IntKind.i64 r2.x.k, Value.string r2.x.t, Value.int IntKind.i64 r2.x.n, Value.slice ad4 r2.x.ks.length c4] 24 (0, 0)) ∧ Below w.heap.size w U3) := ⟨k1, (k2 _ (by omega)).trans nB, BU3⟩
      obtain ⟨⟨_, _, _, _⟩, _, _, _, _⟩ := t4 nA
      clear mA mB BW nB BU k1 k2 k3 BU3 d1 d2 e1 e2 l6 t6 nA lt4 lt2 ltw bV
      go_wp2_with fail
      go_at_call 7
      refine (T2 _).mono ?_
      rintro e U4 ⟨⟨u4, rfl, t8⟩, d4⟩
      go_wp2_with fail
      go_at_call 9
      refine (FT.out _ _ _ t8).mono ?_
      rintro e U5 ⟨ad8, c8, rfl, l8, d5⟩
      generalize readP M (typeF M (fuelL M)) 0 = r4 at *
      obtain ⟨x1, x2, x3, lt2, ltw⟩ := HX.out
      obtain ⟨k1, k4, BU3⟩ := HK.out
      have e4 := d4.size
      have e5 := d5.size
      have nB : U5.heap[W4.heap.size]? = some (.cells #[Value.int IntKind.i64 r2.x.k, Value.string r2.x.t, Value.int IntKind.i64 r2.x.n, Value.slice ad4 r2.x.ks.length c4] 24 (0, 0)) := (d5.block _ (by omega)).trans ((d4.block _ (by omega)).trans k4)
      have nA : U5.heap[W2.heap.size]? = some (.cells #[Value.int IntKind.i64 r3.x.k, Value.string r3.x.t, Value.int IntKind.i64 r3.x.n, Value.slice ad6 r3.x.ks.length c6] 24 (0, 0)) := (d5.block _ (by omega)).trans ((d4.block _ (by omega)).trans k1)
      have l9 := l7.bel (d4.trans (d5.mono e4))
      obtain ⟨U6, hU6⟩ : ∃ U, ((((U5.setCell ⟨W4.heap.size, 0, none⟩ (Value.int IntKind.i64 r4.x.k)).setCell ⟨W4.heap.size, 1, none⟩ (Value.string r4.x.t)).setCell ⟨W4.heap.size, 2, none⟩ (Value.int IntKind.i64 r4.x.n)).setCell ⟨W4.heap.size, 3, none⟩ (Value.slice ad8 r4.x.ks.length c8)) = U := ⟨_, rfl⟩
      have o6 : ∀ j, j ≠ W4.heap.size → U6.heap[j]? = U5.heap[j]? := fun j hj => by rw [← hU6]; exact blk_set4 hj _ _ _ _
      have z6 : U6.heap.size = U5.heap.size := by rw [← hU6]; simp [World.setCell]
      have HF : Hid (∀ W, Below U6.heap.size U6 W → W.heap[W2.heap.size]? = some (.cells #[Value.int IntKind.i64 r3.x.k, Value.string r3.x.t, Value.int IntKind.i64 r3.x.n, Value.slice ad6 r3.x.ks.length c6] 24 (0, 0)) ∧ W.heap[W4.heap.size]? = some (.cells #[Value.int IntKind.i64 r4.x.k, Value.string r4.x.t, Value.int IntKind.i64 r4.x.n, Value.slice ad8 r4.x.ks.length c8] 24 (0, 0)) ∧ LAt W (fun b => U1.heap.size ≤ b) (.slice ad6 r3.x.ks.length c6) r3.x.ks ∧ LAt W (fun b => U4.heap.size ≤ b) (.slice ad8 r4.x.ks.length c8) r4.x.ks ∧ Below w.heap.size w W) := by
        have lw4 : w.heap.size ≤ W4.heap.size := by omega
        have BU6 : Below w.heap.size w U6 := by
          rw [← hU6]
          have q := BU3.trans ((d4.mono BU3.size).trans (d5.mono (by have := BU3.size; omega)))
          exact (((q.setCell lw4 _).setCell lw4 _).setCell lw4 _).setCell lw4 _
        have i4 : U6.heap[W4.heap.size]? = some (.cells #[Value.int IntKind.i64 r4.x.k, Value.string r4.x.t, Value.int IntKind.i64 r4.x.n, Value.slice ad8 r4.x.ks.length c8] 24 (0, 0)) := by rw [← hU6]; exact t4_set _ _ _ _ nB
        have l10 : LAt U6 (fun b => U4.heap.size ≤ b) (.slice ad8 r4.x.ks.length c8) r4.x.ks := by rw [← hU6]; exact l8.set4 (by omega) (Nat.le_refl _) _ _ _ _
        have l11 : LAt U6 (fun b => U1.heap.size ≤ b) (.slice ad6 r3.x.ks.length c6) r3.x.ks := by rw [← hU6]; exact l9.set4 (by omega) (Nat.le_refl _) _ _ _ _
        intro W bW
        exact ⟨(bW.block _ (by omega)).trans ((o6 _ (by omega)).trans nA), (bW.block _ (by omega)).trans i4, l11.bel bW, l10.bel bW, BU6.trans (bW.mono BU6.size)⟩
      obtain ⟨⟨_, _, _, _⟩, _, _, _, _⟩ := t4 nB
      clear HX HK o6 z6 l9 l8 l7 d4 d5 e4 e5 nB nA k1 k4 BU3 x1 x2 x3 lt2 ltw t8
      by_cases ge : r3.e = 0
      · have ge' : (r3.e == 0) = true := by rw [ge]; rfl
        go_wp2_with fail
        go_at_call 7
        refine (T1 _).mono ?_
        rintro e U7 ⟨⟨u7, rfl, t9⟩, d7⟩
        obtain ⟨tb, tq, rfl⟩ : ∃ tb tq, u7 = .slice tb L.length tq := by
          obtain ⟨⟨ta, tc, _, _, e, _⟩, _⟩ := t9
          exact ⟨ta, tc, e⟩
        obtain ⟨fA, fB, fl, fm, fw⟩ := HF.out _ d7
        have BZ : Hid (Below w.heap.size w U7) := fw
        clear t9 HF
        by_cases gp : r3.p = L.length
        · have gp' : ((r3.p : Int) == (L.length : Int)) = true := by rw [gp]; simp
          by_cases gf : r4.e = 2
          · have gf' : (r4.e != 2) = false := by rw [gf]; rfl
            clear fA fB fl fm fw d7
            go_wp2_with fail
            go_at_call 10
            refine (SU _).mono ?_
            rintro e Z1 ⟨rfl, g1⟩
            have b6 : Hid (Below w.heap.size w Z1) := BZ.out.trans (g1.mono BZ.out.size)
            clear g1
            go_wp2
            go_ret
            exact ⟨rfl, b6.out⟩
          · obtain ⟨h1, h2, h3⟩ := PT.out ge gp gf
            have gf' : (r4.e != 2) = true := by simp [gf]
            have gk : ((r4.p : Int) == (r3.p : Int) + 2) = true := by rw [h2]; simp
            have gz : (r4.e == 0) = true := by rw [h1]; rfl
            have gb : r3.p ≤ 1048576 := by omega
            have SM := rsame_any r3.x r4.x U7 _ _ _ _ fl fm z3 z4
            unfold Nd.v at SM
            obtain ⟨⟨_, _, _, _⟩, _, _, _, _⟩ := t4 fA
            obtain ⟨⟨_, _, _, _⟩, _, _, _, _⟩ := t4 fB
            have h3' : Hid (r3.x = r4.x) := h3.symm
            clear h1 h2 h3 fA fB fl fm fw d7 gf ge gp
            go_wp2_with fail
            go_at_call 8
            refine SM.mono ?_
            rintro e U8 ⟨bb, rfl, hbb, d8⟩
            obtain rfl : bb = true := hbb.2 h3'.out
            have BZ : Hid (Below w.heap.size w U8) := BZ.out.trans (d8.mono BZ.out.size)
            clear d8 hbb SM h3'
            go_wp2_with fail
            go_at_call 10
            refine (SU _).mono ?_
            rintro e Z1 ⟨rfl, g1⟩
            have b6 : Hid (Below w.heap.size w Z1) := BZ.out.trans (g1.mono BZ.out.size)
            clear g1
            go_wp2
            go_ret
            exact ⟨rfl, b6.out⟩
        · have gp' : ((r3.p : Int) == (L.length : Int)) = false := by simp; omega
          clear fA fB fl fm fw d7
          go_wp2_with fail
          go_at_call 10
          refine (SU _).mono ?_
          rintro e Z1 ⟨rfl, g1⟩
          have b6 : Hid (Below w.heap.size w Z1) := BZ.out.trans (g1.mono BZ.out.size)
          clear g1
          go_wp2
          go_ret
          exact ⟨rfl, b6.out⟩
      · have ge' : (r3.e == 0) = false := by simp [ge]
        have BZ : Hid (Below w.heap.size w U6) := (HF.out _ (Below.refl _ _)).2.2.2.2
        clear HF
        go_wp2_with fail
        go_at_call 10
        refine (SU _).mono ?_
        rintro e Z1 ⟨rfl, g1⟩
        have b6 : Hid (Below w.heap.size w Z1) := BZ.out.trans (g1.mono BZ.out.size)
        clear g1
        go_wp2
        go_ret
        exact ⟨rfl, b6.out⟩
  · have he' : (r1.e == 0) = false := by simp [he]
    have bV : Below V0.heap.size V0 V0 := Below.refl _ _
    clear PE
    obtain ⟨mA, mB, _, _, BW, lt4⟩ := HA.out _ bV
    obtain ⟨lt2, ltw⟩ := lt24.out
    clear HA lt24
    go_wp2_with fail
    go_at_call 7
    refine (T1 _).mono ?_
    rintro e U1 ⟨⟨u1, rfl, t6⟩, d1⟩
    go_wp2_with fail
    go_at_call 9
    refine (FT.out _ _ _ t6).mono ?_
    rintro e U2 ⟨ad6, c6, rfl, l6, d2⟩
    generalize readP L (typeF L (fuelL L)) 0 = r3 at *
    have e1 := d1.size
    have e2 := d2.size
    have nA : U2.heap[W2.heap.size]? = some (.cells #[Value.int IntKind.i64 r1.x.k, Value.string r1.x.t, Value.int IntKind.i64 r1.x.n, Value.slice ad2 r1.x.ks.length c2] 24 (0, 0)) := (d2.block _ (by omega)).trans ((d1.block _ (by omega)).trans mA)
    have nB : U2.heap[W4.heap.size]? = some (.cells #[Value.int IntKind.i64 r2.x.k, Value.string r2.x.t, Value.int IntKind.i64 r2.x.n, Value.slice ad4 r2.x.ks.length c4] 24 (0, 0)) := (d2.block _ (by omega)).trans ((d1.block _ (by omega)).trans mB)
    have BU : Below w.heap.size w U2 := BW.trans ((d1.mono BW.size).trans (d2.mono (by have := BW.size; omega)))
    obtain ⟨U3, hU3⟩ : ∃ U, ((((U2.setCell ⟨W2.heap.size, 0, none⟩ (Value.int IntKind.i64 r3.x.k)).setCell ⟨W2.heap.size, 1, none⟩ (Value.string r3.x.t)).setCell ⟨W2.heap.size, 2, none⟩ (Value.int IntKind.i64 r3.x.n)).setCell ⟨W2.heap.size, 3, none⟩ (Value.slice ad6 r3.x.ks.length c6)) = U := ⟨_, rfl⟩
    have k1 : U3.heap[W2.heap.size]? = some (.cells #[Value.int IntKind.i64 r3.x.k, Value.string r3.x.t, Value.int IntKind.i64 r3.x.n, Value.slice ad6 r3.x.ks.length c6] 24 (0, 0)) := by rw [← hU3]; exact t4_set _ _ _ _ nA
    have k2 : ∀ j, j ≠ W2.heap.size → U3.heap[j]? = U2.heap[j]? := fun j hj => by rw [← hU3]; exact blk_set4 hj _ _ _ _
    have k3 : U3.heap.size = U2.heap.size := by rw [← hU3]; simp [World.setCell]
    have l7 : LAt U3 (fun b => U1.heap.size ≤ b) (.slice ad6 r3.x.ks.length c6) r3.x.ks := by rw [← hU3]; exact l6.set4 (by omega) (Nat.le_refl _) _ _ _ _
    have BU3 : Below w.heap.size w U3 := by rw [← hU3]; exact (((BU.setCell ltw _).setCell ltw _).setCell ltw _).setCell ltw _
    have HX : Hid (U3.heap.size = U2.heap.size ∧ U1.heap.size ≤ U2.heap.size ∧ W4.heap.size < U1.heap.size ∧ W2.heap.size < W4.heap.size ∧ w.heap.size ≤ W2.heap.size) := ⟨k3, e2, by omega, lt2, ltw⟩
    have HK : Hid (U3.heap[W2.heap.size]? = some (.cells #[Value.int IntKind.i64 r3.x.k, Value.string r3.x.t, Value.int IntKind.i64 r3.x.n, Value.slice ad6 r3.x.ks.length c6] 24 (0, 0)) ∧ U3.heap[W4.heap.size]? = some (.cells #[Value.int IntKind.i64 r2.x.k, Value.string r2.x.t, Value.int IntKind.i64 r2.x.n, Value.slice ad4 r2.x.ks.length c4] 24 (0, 0)) ∧ Below w.heap.size w U3) := ⟨k1, (k2 _ (by omega)).trans nB, BU3⟩
    obtain ⟨⟨_, _, _, _⟩, _, _, _, _⟩ := t4 nA
    clear mA mB BW nB BU k1 k2 k3 BU3 d1 d2 e1 e2 l6 t6 nA lt4 lt2 ltw bV
    go_wp2_with fail
    go_at_call 7
    refine (T2 _).mono ?_
    rintro e U4 ⟨⟨u4, rfl, t8⟩, d4⟩
    go_wp2_with fail
    go_at_call 9
    refine (FT.out _ _ _ t8).mono ?_
    rintro e U5 ⟨ad8, c8, rfl, l8, d5⟩
    generalize readP M (typeF M (fuelL M)) 0 = r4 at *
    obtain ⟨x1, x2, x3, lt2, ltw⟩ := HX.out
    obtain ⟨k1, k4, BU3⟩ := HK.out
    have e4 := d4.size
    have e5 := d5.size
    have nB : U5.heap[W4.heap.size]? = some (.cells #[Value.int IntKind.i64 r2.x.k, Value.string r2.x.t, Value.int IntKind.i64 r2.x.n, Value.slice ad4 r2.x.ks.length c4] 24 (0, 0)) := (d5.block _ (by omega)).trans ((d4.block _ (by omega)).trans k4)
    have nA : U5.heap[W2.heap.size]? = some (.cells #[Value.int IntKind.i64 r3.x.k, Value.string r3.x.t, Value.int IntKind.i64 r3.x.n, Value.slice ad6 r3.x.ks.length c6] 24 (0, 0)) := (d5.block _ (by omega)).trans ((d4.block _ (by omega)).trans k1)
    have l9 := l7.bel (d4.trans (d5.mono e4))
    obtain ⟨U6, hU6⟩ : ∃ U, ((((U5.setCell ⟨W4.heap.size, 0, none⟩ (Value.int IntKind.i64 r4.x.k)).setCell ⟨W4.heap.size, 1, none⟩ (Value.string r4.x.t)).setCell ⟨W4.heap.size, 2, none⟩ (Value.int IntKind.i64 r4.x.n)).setCell ⟨W4.heap.size, 3, none⟩ (Value.slice ad8 r4.x.ks.length c8)) = U := ⟨_, rfl⟩
    have o6 : ∀ j, j ≠ W4.heap.size → U6.heap[j]? = U5.heap[j]? := fun j hj => by rw [← hU6]; exact blk_set4 hj _ _ _ _
    have z6 : U6.heap.size = U5.heap.size := by rw [← hU6]; simp [World.setCell]
    have HF : Hid (∀ W, Below U6.heap.size U6 W → W.heap[W2.heap.size]? = some (.cells #[Value.int IntKind.i64 r3.x.k, Value.string r3.x.t, Value.int IntKind.i64 r3.x.n, Value.slice ad6 r3.x.ks.length c6] 24 (0, 0)) ∧ W.heap[W4.heap.size]? = some (.cells #[Value.int IntKind.i64 r4.x.k, Value.string r4.x.t, Value.int IntKind.i64 r4.x.n, Value.slice ad8 r4.x.ks.length c8] 24 (0, 0)) ∧ LAt W (fun b => U1.heap.size ≤ b) (.slice ad6 r3.x.ks.length c6) r3.x.ks ∧ LAt W (fun b => U4.heap.size ≤ b) (.slice ad8 r4.x.ks.length c8) r4.x.ks ∧ Below w.heap.size w W) := by
      have lw4 : w.heap.size ≤ W4.heap.size := by omega
      have BU6 : Below w.heap.size w U6 := by
        rw [← hU6]
        have q := BU3.trans ((d4.mono BU3.size).trans (d5.mono (by have := BU3.size; omega)))
        exact (((q.setCell lw4 _).setCell lw4 _).setCell lw4 _).setCell lw4 _
      have i4 : U6.heap[W4.heap.size]? = some (.cells #[Value.int IntKind.i64 r4.x.k, Value.string r4.x.t, Value.int IntKind.i64 r4.x.n, Value.slice ad8 r4.x.ks.length c8] 24 (0, 0)) := by rw [← hU6]; exact t4_set _ _ _ _ nB
      have l10 : LAt U6 (fun b => U4.heap.size ≤ b) (.slice ad8 r4.x.ks.length c8) r4.x.ks := by rw [← hU6]; exact l8.set4 (by omega) (Nat.le_refl _) _ _ _ _
      have l11 : LAt U6 (fun b => U1.heap.size ≤ b) (.slice ad6 r3.x.ks.length c6) r3.x.ks := by rw [← hU6]; exact l9.set4 (by omega) (Nat.le_refl _) _ _ _ _
      intro W bW
      exact ⟨(bW.block _ (by omega)).trans ((o6 _ (by omega)).trans nA), (bW.block _ (by omega)).trans i4, l11.bel bW, l10.bel bW, BU6.trans (bW.mono BU6.size)⟩
    obtain ⟨⟨_, _, _, _⟩, _, _, _, _⟩ := t4 nB
    clear HX HK o6 z6 l9 l8 l7 d4 d5 e4 e5 nB nA k1 k4 BU3 x1 x2 x3 lt2 ltw t8
    by_cases ge : r3.e = 0
    · have ge' : (r3.e == 0) = true := by rw [ge]; rfl
      go_wp2_with fail
      go_at_call 7
      refine (T1 _).mono ?_
      rintro e U7 ⟨⟨u7, rfl, t9⟩, d7⟩
      obtain ⟨tb, tq, rfl⟩ : ∃ tb tq, u7 = .slice tb L.length tq := by
        obtain ⟨⟨ta, tc, _, _, e, _⟩, _⟩ := t9
        exact ⟨ta, tc, e⟩
      obtain ⟨fA, fB, fl, fm, fw⟩ := HF.out _ d7
      have BZ : Hid (Below w.heap.size w U7) := fw
      clear t9 HF
      by_cases gp : r3.p = L.length
      · have gp' : ((r3.p : Int) == (L.length : Int)) = true := by rw [gp]; simp
        by_cases gf : r4.e = 2
        · have gf' : (r4.e != 2) = false := by rw [gf]; rfl
          clear fA fB fl fm fw d7
          go_wp2_with fail
          go_at_call 10
          refine (SU _).mono ?_
          rintro e Z1 ⟨rfl, g1⟩
          have b6 : Hid (Below w.heap.size w Z1) := BZ.out.trans (g1.mono BZ.out.size)
          clear g1
          go_wp2
          go_ret
          exact ⟨rfl, b6.out⟩
        · obtain ⟨h1, h2, h3⟩ := PT.out ge gp gf
          have gf' : (r4.e != 2) = true := by simp [gf]
          have gk : ((r4.p : Int) == (r3.p : Int) + 2) = true := by rw [h2]; simp
          have gz : (r4.e == 0) = true := by rw [h1]; rfl
          have gb : r3.p ≤ 1048576 := by omega
          have SM := rsame_any r3.x r4.x U7 _ _ _ _ fl fm z3 z4
          unfold Nd.v at SM
          obtain ⟨⟨_, _, _, _⟩, _, _, _, _⟩ := t4 fA
          obtain ⟨⟨_, _, _, _⟩, _, _, _, _⟩ := t4 fB
          have h3' : Hid (r3.x = r4.x) := h3.symm
          clear h1 h2 h3 fA fB fl fm fw d7 gf ge gp
          go_wp2_with fail
          go_at_call 8
          refine SM.mono ?_
          rintro e U8 ⟨bb, rfl, hbb, d8⟩
          obtain rfl : bb = true := hbb.2 h3'.out
          have BZ : Hid (Below w.heap.size w U8) := BZ.out.trans (d8.mono BZ.out.size)
          clear d8 hbb SM h3'
          go_wp2_with fail
          go_at_call 10
          refine (SU _).mono ?_
          rintro e Z1 ⟨rfl, g1⟩
          have b6 : Hid (Below w.heap.size w Z1) := BZ.out.trans (g1.mono BZ.out.size)
          clear g1
          go_wp2
          go_ret
          exact ⟨rfl, b6.out⟩
      · have gp' : ((r3.p : Int) == (L.length : Int)) = false := by simp; omega
        clear fA fB fl fm fw d7
        go_wp2_with fail
        go_at_call 10
        refine (SU _).mono ?_
        rintro e Z1 ⟨rfl, g1⟩
        have b6 : Hid (Below w.heap.size w Z1) := BZ.out.trans (g1.mono BZ.out.size)
        clear g1
        go_wp2
        go_ret
        exact ⟨rfl, b6.out⟩
    · have ge' : (r3.e == 0) = false := by simp [ge]
      have BZ : Hid (Below w.heap.size w U6) := (HF.out _ (Below.refl _ _)).2.2.2.2
      clear HF
      go_wp2_with fail
      go_at_call 10
      refine (SU _).mono ?_
      rintro e Z1 ⟨rfl, g1⟩
      have b6 : Hid (Below w.heap.size w Z1) := BZ.out.trans (g1.mono BZ.out.size)
      clear g1
      go_wp2
      go_ret
      exact ⟨rfl, b6.out⟩
end Go.Proofs.Ytmfgcaffdkakhaa
