/- Own text. Values: what every statement begins with (awake), over what package value must answer. -/
import Derived.Test.YtlijplbaefaeaaaDoorVa3
import Derived.Lib.RuneBytes
namespace Go.Proofs.YtlijplbaefaeaaaDoor
open Go.RowKit
set_option linter.unusedVariables false
set_option linter.unusedSimpArgs false

def nuV (n : Int) : Vl := ⟨3, n, ⟨#[]⟩⟩
def sA : ByteArray := ⟨#[97]⟩
def sB : ByteArray := ⟨#[98]⟩
def h1A : Hp := [arrT [nuV 1, nuV 2]]
def h2A : Hp := [arrT [nuV 1, nuV 2], ⟨true, [sA, sB], [nuV 3, nuV 2]⟩]
def h3A : Hp := [arrT [nuV 1, nuV 2, nuV 5], ⟨true, [sA, sB], [nuV 3, nuV 2]⟩]
def vA : Vl := ⟨5, 0, ⟨#[]⟩⟩
def vO : Vl := ⟨6, 1, ⟨#[]⟩⟩
theorem tl (s : ByteArray) : s.toList = s.data.toList := ByteArray.toList_eq s
theorem e_obj : h1A ++ [objT [sA, sB, sA] [nuV 1, nuV 2, nuV 3] ⟨true, [], []⟩] = h2A := by
  simp [h1A, h2A, objT, setT, posN, eqB, tl, sA, sB, List.findIdx_cons]
theorem e_get : getH h2A vO sA = some (nuV 3) := by simp [getH, isH, h2A, vO, getT, posN, eqB, tl, sA, sB, List.findIdx_cons, nuV, arrT]
theorem e_put : putB h2A vA 2 = true ∧ putH h2A vA 2 (nuV 5) = h3A := by
  constructor
  · simp [putB, isH, lenH, h2A, vA, arrT]
  · simp [putH, putB, isH, lenH, pshH, h2A, h3A, vA, arrT]
theorem e_len : lenH h3A vA = 3 := by simp [lenH, isH, h3A, vA, arrT]
theorem e_put9 : putB h3A vA 9 = false ∧ putH h3A vA 9 (nuV 5) = h3A := by
  have : putB h3A vA 9 = false := by simp [putB, isH, lenH, h3A, vA, arrT]
  exact ⟨this, by simp [putH, this]⟩
theorem ok_nu (n : Int) (h : -100 ≤ n ∧ n ≤ 100) : okV (nuV n) := ⟨⟨by show _ ≤ n; omega, by show n ≤ _; omega⟩, by show (0 : Nat) ≤ _; omega⟩
theorem ok_vA : okV vA := ⟨⟨by decide, by decide⟩, by show (0 : Nat) ≤ _; omega⟩
theorem ok_vO : okV vO := ⟨⟨by decide, by decide⟩, by show (0 : Nat) ≤ _; omega⟩
theorem sm_0 : smH [] := ⟨by decide, fun t ht => by cases ht⟩
theorem sm_1 : smH h1A := by simp [smH, h1A, arrT]
theorem sm_2 : smH h2A := by simp [smH, h2A, arrT]
theorem sm_3 : smH h3A := by simp [smH, h3A, arrT]
theorem row_get : ∀ (l : List Vl) (i : Nat) (hi : i < l.length) (j : Nat), j < 3 → (l.flatMap Vl.cs)[i * 3 + j]? = (l[i].cs)[j]?
  | x :: l, 0, hi, j, hj => by
    rw [List.flatMap_cons, List.getElem?_append_left (by simp [Vl.cs]; omega)]
    simp
  | x :: l, i + 1, hi, j, hj => by
    rw [List.flatMap_cons, List.getElem?_append_right (by simp [Vl.cs]; omega)]
    have := row_get l i (by simpa using hi) j hj
    simp only [Vl.cs, List.length_cons, List.length_nil] at *
    rw [show (i + 1) * 3 + j - (0 + 1 + 1 + 1) = i * 3 + j by omega, this]
    rfl
theorem res_vl {fn : Func} {p : Nat} (h : fn.results = #[.cell p 23]) {W : World} {n : Nat} {a b c : Value} {t : TypeId} {tmps : Array Value} (hb : W.heap[n]? = some (.cells #[a, b, c] t (0, 0))) (ht : tmps[p]?.getD undef = .pointer (some ⟨n, 0, none⟩)) :
    (results fn tmps).run Tryd.prog W = .ok (.agg #[a, b, c]) W := by
  have c0 : W.cell? ⟨n, 0, none⟩ = some a := by simp [World.cell?, hb]
  have c1 : W.cell? ⟨n, 1, none⟩ = some b := by simp [World.cell?, hb]
  have c2 : W.cell? ⟨n, 2, none⟩ = some c := by simp [World.cell?, hb]
  simp [results, h, go_sem, ht, c0, c1, c2]
theorem hnw {w : World} (o : Obj) {k : Nat} (h : k = w.heap.size) : (w.alloc o).heap[k]? = some o := by rw [h]; exact heap_alloc_new w o
theorem hol {w : World} (o : Obj) {k : Nat} {x : Obj} (h : w.heap[k]? = some x) : (w.alloc o).heap[k]? = some x := (heap_alloc_old w o (glt h)).trans h
set_option maxRecDepth 100000 in
theorem number_any (n : Int) (w : World) : Calls Tryd.prog 31 #[.int .i64 n] w fun e w' => e = .returned (.agg #[.int .i64 3, .int .i64 n, .string ⟨#[]⟩]) ∧ Below w.heap.size w w' := by
  go_enter Tryd.func31, Tryd.ntmps31
  go_wp2
  exact bodyPost_ret (res_vl Tryd.results31 (hnw _ rfl) rfl) rfl ⟨rfl, belA _ _⟩
/-- values, names that were laid just now. -/
theorem vs_new {W : World} {l : List Vl} {cs : Array Value} (h : cs.toList = l.flatMap Vl.cs) : VsA (W.alloc (.cells cs 23)) (fun b => b = W.heap.size) (.slice (some ⟨W.heap.size, 0, none⟩) l.length l.length) l := by
  refine ⟨_, _, rfl, fun _ => ⟨W.heap.size, 0, rfl, rfl, by simp, fun i hi => ?_⟩⟩
  have hb := hnw (w := W) (.cells cs 23) rfl
  have hc : ∀ j, (W.alloc (.cells cs 23)).cell? ⟨W.heap.size, j, none⟩ = (l.flatMap Vl.cs)[j]? := fun j => by
    rw [cell_of_row _ _ _ _ _ _ hb, ← h]
    simp
  have hg := row_get l i hi
  simp only [Nat.zero_add]
  exact ⟨(hc _).trans (hg 0 (by omega)), (hc _).trans (hg 1 (by omega)), (hc _).trans (hg 2 (by omega))⟩
end Go.Proofs.YtlijplbaefaeaaaDoor
