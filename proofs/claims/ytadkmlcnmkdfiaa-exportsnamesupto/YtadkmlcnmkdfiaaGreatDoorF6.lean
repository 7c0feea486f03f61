/- Own text. Whether no two trees of a list have the same text: package tree. -/
import Derived.Test.YtadkmlcnmkdfiaaGreatDoorF5
import Derived.Test.YtadkmlcnmkdfiaaGreatDoorVPlain
import Derived.Maps.RangeWalk
namespace Go.Proofs.YtadkmlcnmkdfiaaGreatDoor
open Go.RowKit Go.Maps
set_option linter.unusedVariables false

theorem lawSF : Keyed Tryz.prog 9 := string_keyed Tryz.underlying9
theorem keyT {s : ByteArray} (hs : s.size ≤ 281474976710656) : keyOf Tryz.prog 9 (.string s) = some (.string s.data.toList) := by
  have : s.size ≤ maxLen := by unfold maxLen; omega
  simp [keyOf, Tryz.underlying9, mapKey, this]
/-- how an element of no fields reads. -/
def sElem : Value → Option (DataW Unit × List MemPlace)
  | .agg cs => if cs.size = 0 then some (.lit (.string []), []) else none
  | _ => none
theorem sElem_mk : sElem (.agg #[]) = some (.lit (.string []), []) := rfl
theorem own_tightS {w : World} {P : Program} {k : TypeId} {R : Value → Option (DataW Unit × List MemPlace)} {b n : Nat} {L : Fls} (h : w.ownsMap P k R b n (mapD L)) : w.ownsMap P k R b L.length (mapD L) := by
  obtain ⟨es, clock, hb, F, _, hD⟩ := h
  refine ⟨es, clock, hb, F, ?_, hD⟩
  have e := congrArg Maps.size hD
  rw [mapD_size] at e
  rw [e, Maps.size_eq, length_sorted]
  simp
theorem mapHint (W : World) (n : Int) : (Instr.makeMap 201 (some (.int .i64 n))).run Tryz.prog W = .ok (.map (some W.heap.size)) (W.alloc (.map #[] 0)) := by
  simp [Instr.makeMap, run_underlying Tryz.underlying201, asInt, asIntOf, newObj, Result.andThen, go_sem]
  rfl

/-- the texts of the first trees, as a rising list. -/
def txts (l : List Nd) : Fls := l.foldl (fun L x => ins x.t ByteArray.empty L) []
theorem txts_snoc (l : List Nd) (x : Nd) : txts (l ++ [x]) = ins x.t ByteArray.empty (txts l) := by simp [txts]
theorem txts_has (t : ByteArray) : ∀ l : List Nd, hasP t (l.foldl (fun L x => ins x.t ByteArray.empty L) []) = true ↔ ∃ x ∈ l, x.t = t := by
  suffices h : ∀ (l : List Nd) (L : Fls), hasP t (l.foldl (fun L x => ins x.t ByteArray.empty L) L) = true ↔ (∃ x ∈ l, x.t = t) ∨ hasP t L = true by
    intro l; rw [h]; simp [hasP]
  intro l
  induction l with
  | nil => intro L; simp
  | cons x l ih =>
    intro L
    rw [List.foldl_cons, ih, hasP_ins, Bool.or_eq_true, eqB_iff]
    constructor
    · rintro (⟨y, hy, e⟩ | e | e)
      · exact .inl ⟨y, by simp [hy], e⟩
      · exact .inl ⟨x, by simp, e⟩
      · exact .inr e
    · rintro (⟨y, hy, e⟩ | e)
      · rcases List.mem_cons.1 hy with rfl | hy
        · exact .inr (.inl e)
        · exact .inl ⟨y, hy, e⟩
      · exact .inr (.inr e)
theorem txts_ris (l : List Nd) : Ris (txts l) := by
  suffices h : ∀ (l : List Nd) (L : Fls), Ris L → Ris (l.foldl (fun L x => ins x.t ByteArray.empty L) L) from h l [] (by simp [Ris])
  intro l
  induction l with
  | nil => intro L h; exact h
  | cons x l ih => intro L h; exact ih _ h.ins
/-- no two trees have the same text. -/
def unlikeP (l : List Nd) : Prop := (l.map (·.t)).Nodup
theorem txts_len (l : List Nd) (k : Nat) (hk : k ≤ l.length) : (txts (l.take k)).length ≤ k ∧ ((txts (l.take k)).length = k ↔ unlikeP (l.take k)) := by
  induction k with
  | zero => simp [txts, unlikeP]
  | succ k ih =>
    obtain ⟨h1, h2⟩ := ih (by omega)
    have e := List.take_succ_eq_append_getElem (l := l) (i := k) (by omega)
    rw [e, txts_snoc, length_ins (txts_ris _)]
    have hh := txts_has l[k].t (l.take k)
    have hu : unlikeP (l.take k ++ [l[k]]) ↔ unlikeP (l.take k) ∧ ¬ ∃ x ∈ l.take k, x.t = l[k].t := by
      unfold unlikeP
      rw [List.map_append, List.nodup_append]
      constructor
      · rintro ⟨a, _, c⟩
        refine ⟨a, ?_⟩
        rintro ⟨x, hx, ex⟩
        exact c x.t (List.mem_map.2 ⟨x, hx, rfl⟩) l[k].t (by simp) ex
      · rintro ⟨a, c⟩
        refine ⟨a, by simp, ?_⟩
        intro u hu v hv huv
        obtain ⟨x, hx, rfl⟩ := List.mem_map.1 hu
        obtain rfl : v = l[k].t := by simpa using hv
        exact c ⟨x, hx, huv⟩
    rw [hu]
    unfold txts at h1 h2 ⊢
    by_cases hp : hasP l[k].t ((l.take k).foldl (fun L x => ins x.t ByteArray.empty L) []) = true
    · rw [if_pos hp]
      refine ⟨by omega, fun h => by omega, fun h => absurd (hh.1 hp) h.2⟩
    · rw [if_neg hp]
      refine ⟨by omega, fun h => ⟨h2.1 (by omega), fun hx => hp (hh.2 hx)⟩, fun h => by rw [h2.2 h.1]⟩

set_option maxRecDepth 100000 in
set_option maxHeartbeats 4000000 in
theorem unlike_any (w : World) (S : Nat → Prop) (l : List Nd) (v : Value) (hx : LAt w S v l) (hl : l.length ≤ 4194304) (ht : ∀ x ∈ l, x.t.size ≤ 4194304) :
    Calls Tryz.prog 125 #[v] w fun e w' => ∃ b : Bool, e = .returned (.bool b) ∧ (b = true ↔ unlikeP l) ∧ Below w.heap.size w w' := by
  obtain ⟨ax, cx, bx, ox, fx, rfl, px, qx, rx⟩ := hx.op
  have hmm := mapHint
  have tl := txts_len l
  have tr := fun k => txts_ris (l.take k)
  go_enter Tryz.func125, Tryz.ntmps125
  go_wp2
  go_loopw [11] (fun i wr => ∃ k : Nat, i = .int .i64 (k : Nat) ∧ k ≤ l.length ∧ Below w.heap.size w wr ∧ wr.ownsMap Tryz.prog 9 sElem w.heap.size (txts (l.take k)).length (mapD (txts (l.take k)))) (fun i _ => l.length - (intOf i).toNat)
  case atStart => exact ⟨0, rfl, by omega, bel_a _ _, World.ownsMap_made w Tryz.prog 9 sElem⟩
  case round =>
    clear hmm
    obtain ⟨k, rfl, hk, bel, own⟩ := hrel
    by_cases hkl : k < l.length
    · obtain ⟨rfl, hSx, hbx⟩ := px (by omega)
      obtain ⟨⟨u1, u2, u3, u4⟩, gx⟩ := kid_at (qx k hkl) (rx k hkl) hbx bel
      have hk1 := keyT (s := l[k].t) (by have := ht l[k] (List.getElem_mem hkl); omega)
      have HS : Hid (txts (l.take (k + 1)) = ins l[k].t ByteArray.empty (txts (l.take k))) := by
        show _ = _
        rw [List.take_succ_eq_append_getElem hkl, txts_snoc]
      have hle := (tl k (by omega)).1
      have trk := tr k
      obtain ⟨aa, cc, e⟩ := gx.sl
      have hltm := own.lt
      clear tl tr
      generalize l[k] = y at *
      generalize fx k = fy at *
      subst e
      generalize hL : txts (l.take k) = L at *
      go_wp2_with (at_mapUpdate; refine wpList_mapUpdate_own _ rfl _ _ _ 201 rfl 9 202 lawSF Tryz.underlying201 sElem w.heap.size L.length (mapD L) rfl ?own ?room _ _ _ rfl rfl hk1 _ [] sElem_mk ?_; rotate_left 1; (case own => exact own.kept (World.grownBy_alloc _ _ none) (by simp)); (case room => unfold maxLen; omega); intro W3 h3 g3)
      have own3 : W3.ownsMap Tryz.prog 9 sElem w.heap.size (txts (l.take (k + 1))).length (mapD (txts (l.take (k + 1)))) := by
        rw [HS.out]
        have e2 := mapD_put y.t ByteArray.empty trk
        exact own_tightS (by rw [← e2]; exact h3)
      have bel3 : Below w.heap.size w W3 := (bel.alloc bel.size _).grown g3 (by simp; have := bel.size; omega) (fun j hj => by cases hj; exact Nat.le_refl _)
      clear h3 g3 own HS
      go_wp2
      go_roundw
      case rel => exact ⟨k + 1, by simp, by omega, bel3, own3⟩
      case measure => simp [intOf]; omega
    · have e : k = l.length := by omega
      have tlk := (tl k hk).2
      have tlk1 := (tl k hk).1
      have el : l.take k = l := by rw [e]; exact List.take_length
      rw [el] at own tlk tlk1
      rw [e] at tlk
      have h1 : ∀ ty, (Builtin.len_ #[201] ty #[.map (some w.heap.size)]).run Tryz.prog wr = .ok (.int .i64 (txts l).length) wr := fun ty => by
        have := own.len Tryz.underlying201 ty
        rw [mapD_size] at this
        exact this
      have HT : Hid ((txts l).length = l.length ↔ unlikeP l) := tlk
      clear tl tr el tlk own e ht
      generalize (txts l).length = c at *
      go_wp2
      go_ret
      exact ⟨_, rfl, by rw [← HT.out]; simp <;> omega, bel⟩
end Go.Proofs.YtadkmlcnmkdfiaaGreatDoor
