/- Own text. Package value keeps all that the statements' walks ask of it. -/
import Derived.Test.YtlijplbaefaeaaaDoorPvR
namespace Go.Proofs.YtlijplbaefaeaaaDoor
open Go.RowKit Go.Maps
set_option linter.unusedVariables false
set_option linter.unusedSimpArgs false

theorem vAt.keep {W W' : World} {hb : Nat} {H : Hp} {S : Nat → Prop} (h : vAt W hb H S) (k : ∀ b, S b → W'.heap[b]? = W.heap[b]?) : vAt W' hb H S :=
  let ⟨T, pv, V, q, t⟩ := h
  ⟨T, pv, V, q.keep k, t⟩
theorem vAt.lt {W : World} {hb : Nat} {H : Hp} {S : Nat → Prop} (h : vAt W hb H S) : ∀ b, S b → b < W.heap.size :=
  let ⟨_, _, _, q, _⟩ := h
  q.lt
theorem VlPrg : PrgV EvP vAt where
  ev := fun h b => h.bel b
  keep := fun h _ k => h.keep k
  lt := fun h => h.lt
  new := hnew_any
  tru := fun x W _ => ptruth_any x W
  typ := fun x W _ => ptypeof_any x W
  sam := fun x y W _ _ => psame_any x y W
  txt := fun p x W h he => ptext_any p x W h he
  arr := fun D v l h hs ok hl hv hD => harr_any D v l h hs ok hl hv hD
  obj := fun D u v ns l h hs ok okn hn hl hu hv hD => hobj_any D u v ns l h hs ok okn hn hl hu hv hD
  len := fun x h hs ok => let ⟨_, _, _, q, _⟩ := h; hlen_any q x (by have := hs.1; omega) rfl
  get := fun x s h hs ok hss => let ⟨_, _, _, q, _⟩ := h; hget_any q x s (by omega) (by have := hs.1; omega) rfl
  at_ := fun x i h hs ok _ _ => let ⟨_, _, _, q, _⟩ := h; hAt_any q x i (by have := hs.1; omega) rfl (fun t ht => by have := (hs.2 t ht).1; omega)
  set := fun x s y h hs _ oy hss => hset_any h hs x s hss y oy.2
  put := fun x i y h hs _ oy _ _ => hput_any h hs x i y oy.2
  psh := fun x y h hs _ oy => hpsh_any h hs x y oy.2
  narr := harrN
  nobj := hobjN
  nlen := fun W x => hlen_nil x W
  nget := fun W x s => hget_nil x s W
  nat := fun W x i => hAt_nil x i W
  nset := fun W x s y => hset_nil x s y W
  nput := fun W x i y => hput_nil x i y W
  npsh := fun W x y => hpush_nil x y W
end Go.Proofs.YtlijplbaefaeaaaDoor
