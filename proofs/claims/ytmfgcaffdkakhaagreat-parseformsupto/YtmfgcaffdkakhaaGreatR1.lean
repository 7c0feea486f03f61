/- Own text. Package parse: the rules, one by one. -/
import Derived.Test.YtmfgcaffdkakhaaGreatP2p
namespace Go.Proofs.YtmfgcaffdkakhaaGreat
open Go.RowKit
set_option linter.unusedVariables false
set_option linter.unusedSimpArgs false

/-- how much may still be done: tokens left, rules that may still be opened, the rule's rank. -/
def Ms (L : List Tok) (a o rk : Nat) : Nat := ((L.length - a) * 402 + (400 - o)) * 32 + rk
/-- a rule answers what the model answers. -/
def CN (fn : FuncId) (L : List Tok) (f rk : Nat) (F : Nat → Nat → Rs Nd) : Prop := ∀ (w : World) (P : Pl) (a o : Nat), Rd w P L a (opE o) → o ≤ 400 → Ms L a o rk ≤ f → Calls Tryz.prog fn #[.pointer (some ⟨P.R, 0, none⟩)] w (AnsN P L (opE o) w (F a o))
theorem LAt.n1 {W : World} {S : Nat → Prop} {b : Nat} {x : Nd} {v : Value} {t : TypeId} {fr : Nat × Nat} (hb : W.heap[b]? = some (.cells #[.int .i64 x.k, .string x.t, .int .i64 x.n, v] t fr)) (hS : S b) (hx : LAt W S v x.ks) : LAt W S (.slice (some ⟨b, 0, none⟩) 1 1) [x] := LAt.single hb hS hx
theorem LAt.n2 {W : World} {S : Nat → Prop} {b : Nat} {x y : Nd} {v u : Value} {t : TypeId} {fr : Nat × Nat} (hb : W.heap[b]? = some (.cells #[.int .i64 x.k, .string x.t, .int .i64 x.n, v, .int .i64 y.k, .string y.t, .int .i64 y.n, u] t fr)) (hS : S b) (hx : LAt W S v x.ks) (hy : LAt W S u y.ks) : LAt W S (.slice (some ⟨b, 0, none⟩) 2 2) [x, y] := by
  have hc : ∀ i, W.cell? ⟨b, i, none⟩ = (#[Value.int .i64 x.k, .string x.t, .int .i64 x.n, v, .int .i64 y.k, .string y.t, .int .i64 y.n, u] : Array Value)[i]? := fun i => cell_of_row W b i _ _ _ hb
  refine .row b 0 2 [x, y] (fun i => if i = 0 then v else u) hS (Array.getElem?_eq_some_iff.1 hb).1 (fun i hi => ?_) (fun i hi => ?_)
  · rcases i with _ | _ | i
    · exact ⟨hc 0, hc 1, hc 2, hc 3⟩
    · exact ⟨hc 4, hc 5, hc 6, hc 7⟩
    · simp at hi; omega
  · rcases i with _ | _ | i
    · exact hx
    · exact hy
    · simp at hi; omega
theorem LAt.n3 {W : World} {S : Nat → Prop} {b : Nat} {x y z : Nd} {v u r : Value} {t : TypeId} {fr : Nat × Nat} (hb : W.heap[b]? = some (.cells #[.int .i64 x.k, .string x.t, .int .i64 x.n, v, .int .i64 y.k, .string y.t, .int .i64 y.n, u, .int .i64 z.k, .string z.t, .int .i64 z.n, r] t fr)) (hS : S b) (hx : LAt W S v x.ks) (hy : LAt W S u y.ks) (hz : LAt W S r z.ks) : LAt W S (.slice (some ⟨b, 0, none⟩) 3 3) [x, y, z] := by
  have hc : ∀ i, W.cell? ⟨b, i, none⟩ = (#[Value.int .i64 x.k, .string x.t, .int .i64 x.n, v, .int .i64 y.k, .string y.t, .int .i64 y.n, u, .int .i64 z.k, .string z.t, .int .i64 z.n, r] : Array Value)[i]? := fun i => cell_of_row W b i _ _ _ hb
  refine .row b 0 3 [x, y, z] (fun i => if i = 0 then v else if i = 1 then u else r) hS (Array.getElem?_eq_some_iff.1 hb).1 (fun i hi => ?_) (fun i hi => ?_)
  · rcases i with _ | _ | _ | i
    · exact ⟨hc 0, hc 1, hc 2, hc 3⟩
    · exact ⟨hc 4, hc 5, hc 6, hc 7⟩
    · exact ⟨hc 8, hc 9, hc 10, hc 11⟩
    · simp at hi; omega
  · rcases i with _ | _ | _ | i
    · exact hx
    · exact hy
    · exact hz
    · simp at hi; omega
theorem listE_any {P : Pl} {L : List Tok} {o : Ex} {s : ByteArray} {k : FuncId} {rs caps : Array Value} (eg : ∀ args w, (callFunc k args).run Tryz.prog w = .ok (.enter k args) w) (hs : Small L) {w : World} {a : Nat} (h : Rd w P L a o) (E : Nat → Rs Nd) (hE : ∀ b, Ge (b + 1) (E b))
    (hT : ∀ W b, a ≤ b → Rd W P L b o → Calls Tryz.prog k (rs ++ caps) W (AnsN P L o W (E b))) :
    Calls Tryz.prog 92 #[.pointer (some ⟨P.R, 0, none⟩), .string s, .func (.func k) rs caps] w (AnsL P L o P.R w (listE L E s a)) := by
  unfold listE
  refine list_any eg (fun (_ : Unit) b => (E b).bind fun x c => .ok (x, ()) c) (fun _ _ => True) (fun _ _ => True) P.R w a () h trivial trivial h.lt (fun _ b x c hx => ?_) (fun _ _ _ _ _ _ _ _ => trivial) (fun _ _ _ _ _ _ _ => trivial) (fun W _ b hb _ r _ _ _ => ?_)
  · cases hEb : E b with
    | bad p e => rw [hEb] at hx; cases hx
    | ok y d => rw [hEb] at hx; cases hx; exact hE b _ _ hEb
  · refine (hT W b hb r).mono ?_
    intro e W' hA
    cases hEb : E b with
    | bad p er =>
      rw [hEb] at hA
      obtain ⟨h1, h2⟩ := hA
      exact ⟨h1, .of h2⟩
    | ok y d =>
      rw [hEb] at hA
      obtain ⟨ad, c, h1, h2, h3, h4⟩ := hA
      exact ⟨ad, c, h1, h2, h3, trivial, .of h4⟩
theorem eg_anExpr : ∀ args w, (callFunc 12 args).run Tryz.prog w = .ok (.enter 12 args) w := Go.Proofs.enters_of Tryz.func12 (by kernel_rfl) rfl
theorem eg_objectProp : ∀ args w, (callFunc 109 args).run Tryz.prog w = .ok (.enter 109 args) w := Go.Proofs.enters_of Tryz.func109 (by kernel_rfl) rfl
theorem eg_typeOrNone : ∀ args w, (callFunc 70 args).run Tryz.prog w = .ok (.enter 70 args) w := Go.Proofs.enters_of Tryz.func70 (by kernel_rfl) rfl
theorem eg_typing : ∀ args w, (callFunc 95 args).run Tryz.prog w = .ok (.enter 95 args) w := Go.Proofs.enters_of Tryz.func95 (by kernel_rfl) rfl
theorem eg_aStmt : ∀ args w, (callFunc 14 args).run Tryz.prog w = .ok (.enter 14 args) w := Go.Proofs.enters_of Tryz.func14 (by kernel_rfl) rfl
end Go.Proofs.YtmfgcaffdkakhaaGreat
