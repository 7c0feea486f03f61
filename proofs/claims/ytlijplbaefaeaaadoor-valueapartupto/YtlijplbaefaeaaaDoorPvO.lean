/- Own text. Package value's heap: the thing that is being made. -/
import Derived.Test.YtlijplbaefaeaaaDoorPvN
namespace Go.Proofs.YtlijplbaefaeaaaDoor
open Go.RowKit Go.Maps
set_option linter.unusedVariables false
set_option linter.unusedSimpArgs false

theorem HvS.lenV {hb n : Nat} {H : Hp} {T : List Wd} {pv : Value} {V : List Pb} {S : Nat → Prop} {W : World} (h : HvS hb n H T pv V S W) : V.length = H.length := let ⟨_, _, h, _⟩ := h; h.len
theorem last_get {α : Type} (l : List α) (x : α) (n : Nat) (e : n = l.length) (h : n < (l ++ [x]).length) : (l ++ [x])[n] = x := by
  subst e
  simp
theorem last_set {α : Type} (l : List α) (x y : α) (n : Nat) (e : n = l.length) : (l ++ [x]).set n y = l ++ [y] := by
  subst e
  simp
section
variable {hb n : Nat} {H : Hp} {t : Th} {T : List Wd} {pv v : Value} {V : List Pb} {g : Nat} {S : Nat → Prop} {W : World}
theorem HvS.lenL (h : HvS hb n (H ++ [t]) T pv (V ++ [(g, v)]) S W) : V.length = H.length := by simpa using h.lenV
theorem push_last (h : HvS hb n (H ++ [t]) T pv (V ++ [(g, v)]) S W) (ho : t.ob = false) (y : Vl) (hy : y.tx.size ≤ 140737488355328) (hT : T.length ≤ 70368744177664) (hl : t.ls.length ≤ 4194304) :
    Calls Tryd.prog 40 #[.pointer (some ⟨hb, 0, none⟩), .pointer (some ⟨g, 0, none⟩), y.v] W fun e W' => e = .returned (.tuple #[]) ∧ ∃ v' S', HvS hb n (H ++ [⟨t.ob, t.nm, t.ls ++ [y]⟩]) (kpL y.tx T) pv (V ++ [(g, v')]) S' W' ∧ Stp S W S' W' := by
  have e := h.lenL
  have a := last_get H t H.length rfl (by simp)
  have b := last_get V (g, v) H.length e.symm (by simp; omega)
  have q := push_any h (m := H.length) (by simp) (by simp; omega) (by rw [a]; exact ho) y hy hT (by rw [a]; exact hl)
  simp only [a, b, last_set H _ _ H.length rfl, last_set V _ _ H.length e.symm] at q
  exact q
theorem set_last (h : HvS hb n (H ++ [t]) T pv (V ++ [(g, v)]) S W) (ho : t.ob = true) (s : ByteArray) (hs : s.size ≤ 140737488355328) (y : Vl) (hy : y.tx.size ≤ 140737488355328) (hT : T.length ≤ 35184372088832) (hl : t.nm.length ≤ 4194304) (hK : TOk (H ++ [t]) T) :
    Calls Tryd.prog 42 #[.pointer (some ⟨hb, 0, none⟩), .map (some g), .string s, y.v] W fun e W' => e = .returned (.tuple #[]) ∧ seH hb n (H ++ [setT t s y]) pv (V ++ [(g, v)]) S W W' := by
  have e := h.lenL
  have a := last_get H t H.length rfl (by simp)
  have b := last_get V (g, v) H.length e.symm (by simp; omega)
  have q := set_any h (m := H.length) (by simp) (by simp; omega) (by rw [a]; exact ho) s hs y hy hT (by rw [a]; exact hl) hK
  simp only [a, b, last_set H _ _ H.length rfl] at q
  exact q
theorem place_last (h : HvS hb H.length (H ++ [t]) T pv (V ++ [(g, v)]) S W) (hn : H.length ≤ 4194304) (k : Int) :
    Calls Tryd.prog 41 #[.pointer (some ⟨hb, 0, none⟩), .int .i64 k, faV t (g, v)] W fun e W' => e = .returned (⟨k, (H.length : Nat), ⟨#[]⟩⟩ : Vl).v ∧ ∃ v' S', HvS hb (H.length + 1) (H ++ [t]) T v' (V ++ [(g, v)]) S' W' ∧ Stp S W S' W' := by
  have e := h.lenL
  have a := last_get H t H.length rfl (by simp)
  have b := last_get V (g, v) H.length e.symm (by simp; omega)
  exact place_any h (by simp) (by simp; omega) hn k (by rw [a, b])
theorem TOk.app {T : List Wd} (h : TOk H T) (ho : wdsT t = []) : TOk (H ++ [t]) T := fun k => by
  rw [h k, wds_app, ho]
  simp
theorem TOk.smallL {T : List Wd} (h : TOk (H ++ [t]) T) (s : smH H) (h1 : t.ls.length ≤ 1048577) (h2 : t.nm.length ≤ 1048577) : T.length ≤ 8796100411396 := by
  have := h.len
  have h3 := wds_len (H ++ [t]) 2097152 (fun u hu => by
    rcases List.mem_append.1 hu with hu | hu
    · exact s.2 u hu
    · rw [List.mem_singleton.1 hu]
      omega)
  have h4 := Nat.mul_le_mul_right (2 * 2097152) s.1
  simp [Nat.add_mul] at h3
  omega
/-- what holds while a thing is being made. -/
structure MkS (hb : Nat) (H : Hp) (t : Th) (pv : Value) (V : List Pb) (g : Nat) (S : Nat → Prop) (W wo : World) : Prop where
  at_ : ∃ T v S', HvS hb H.length (H ++ [t]) T pv (V ++ [(g, v)]) S' wo ∧ TOk (H ++ [t]) T ∧ Stp S W S' wo ∧ ¬ S' W.heap.size
  r : wo.heap[W.heap.size]? = some (.cells #[.int .i64 0, .int .i64 0, .string ⟨#[]⟩] 23 (0, 0))
theorem MkS.cell {wo : World} (h : MkS hb H t pv V g S W wo) {b : Nat} (hb' : b < W.heap.size) (ns : ¬ S b) : wo.heap[b]? = W.heap[b]? := let ⟨_, _, _, _, _, s, _⟩ := h.at_; s.k.block b hb' ns
theorem MkS.init {wo : World} (h : HvS hb H.length H T pv V S W) (hT : TOk H T) (b : Below W.heap.size W wo) (hg : W.heap.size + 1 ≤ g) (hth : ThA wo t (g, .slice none 0 0)) (hw : wdsT t = []) (ok : t.nm = []) (ok2 : t.ls = []) (r : wo.heap[W.heap.size]? = some (.cells #[.int .i64 0, .int .i64 0, .string ⟨#[]⟩] 23 (0, 0))) : MkS hb H t pv V g S W wo := by
  obtain ⟨tv, C, hh, hS⟩ := h
  refine ⟨⟨T, _, _, ⟨tv, C, hh.new (W' := wo) (fun x q => b.block x (hh.lt x q)) t (by omega) hth (fun _ => by rw [ok, ok2]; rfl) (fun x hx => by rw [ok2] at hx; cases hx), fun b => Iff.rfl⟩, hT.app hw, ⟨Kv.of b, fun x q => ?_⟩, fun q => ?_⟩, r⟩
  · exact (Hb.new (N := W.heap.size) (by omega) x q).imp (fun q => (hS x).2 q) id
  · rcases Hb.new hg _ q with q | q
    · have := hh.lt _ q
      omega
    · omega
theorem MkS.next {t' : Th} {wo w' : World} {T' : List Wd} {v' : Value} {S1 S' : Nat → Prop} (h : MkS hb H t pv V g S W wo) (a : Stp S W S1 wo) (n1 : ¬ S1 W.heap.size) (q : HvS hb H.length (H ++ [t']) T' pv (V ++ [(g, v')]) S' w') (k : TOk (H ++ [t']) T') (s : Stp S1 wo S' w') : MkS hb H t' pv V g S W w' :=
  ⟨⟨T', v', S', q, k, a.trans s, (s.box h.r n1).2⟩, (s.box h.r n1).1⟩
theorem TOk.pshL {T : List Wd} (h : TOk (H ++ [t]) T) (y : Vl) : TOk (H ++ [⟨t.ob, t.nm, t.ls ++ [y]⟩]) (kpL y.tx T) := by
  have q := h.psh (m := H.length) (by simp) y
  simp only [last_get H t H.length rfl, last_set H _ _ H.length rfl] at q
  exact q
end
end Go.Proofs.YtlijplbaefaeaaaDoor
