/- Own text. Package scope: the resolver is made,and the tops are declared ahead of the walk. -/
import Derived.Test.YtfcocoadaajbjaaGreatDoorGd28
set_option linter.unusedVariables false
set_option linter.unusedSimpArgs false
namespace Go.Proofs.YtfcocoadaajbjaaGreatDoor
open Go.RowKit Go.MapKept
theorem of_frame54 (g : Nat→Value) : Array.ofFn (n:=54) (fun i=>g i.val)=#[g 0,g 1,g 2,g 3,g 4,g 5,g 6,g 7,g 8,g 9,g 10,g 11,g 12,g 13,g 14,g 15,g 16,g 17,g 18,g 19,g 20,g 21,g 22,g 23,g 24,g 25,g 26,g 27,g 28,g 29,g 30,g 31,g 32,g 33,g 34,g 35,g 36,g 37,g 38,g 39,g 40,g 41,g 42,g 43,g 44,g 45,g 46,g 47,g 48,g 49,g 50,g 51,g 52,g 53]:=by
 kernel_rfl
theorem frame54 {t : Array Value} {p1 p6 p7 p8 p9 : Value} (hs : t.size=54) (h1 : t.getD 1 undef=p1) (h6 : t.getD 6 undef=p6) (h7 : t.getD 7 undef=p7) (h8 : t.getD 8 undef=p8) (h9 : t.getD 9 undef=p9) : ∃ f : Nat→Value,t=#[f 0,p1,f 2,f 3,f 4,f 5,p6,p7,p8,p9,f 10,f 11,f 12,f 13,f 14,f 15,f 16,f 17,f 18,f 19,f 20,f 21,f 22,f 23,f 24,f 25,f 26,f 27,f 28,f 29,f 30,f 31,f 32,f 33,f 34,f 35,f 36,f 37,f 38,f 39,f 40,f 41,f 42,f 43,f 44,f 45,f 46,f 47,f 48,f 49,f 50,f 51,f 52,f 53]:=by
 subst h1 h6 h7 h8 h9
 refine ⟨fun i=>t.getD i undef,?_⟩
 rw [← of_frame54 (fun i=>t.getD i undef)]
 refine Array.ext (by rw [hs,Array.size_ofFn]) (fun i h1 h2=>?_)
 rw [Array.getElem_ofFn]
 simp [h1]
def ptJL : List Nd→Int→Int→List Tp
 | [],_,_=>[]
 | y :: r,p,it=>ptJ y p it ++ ptJL r (p+y.size) (it+1)
theorem ptJL_app : ∀ (l r : List Nd) (p it : Int),ptJL (l ++ r) p it=ptJL l p it ++ ptJL r (p+sizes l) (it+l.length)
 | [],r,p,it=>by simp [ptJL,sizes_nil]
 | x :: l,r,p,it=>by
  have e : p+(x.size : Int)+(sizes l : Int)=p+((x.size+sizes l : Nat) : Int):=by push_cast;omega
  have e2 : it+1+(l.length : Int)=it+((l.length+1 : Nat) : Int):=by push_cast;omega
  rw [List.cons_append,ptJL,ptJL,ptJL_app l r,sizes_cons,e,e2,List.append_assoc,List.length_cons]
theorem ptJ_len (x : Nd) (p it : Int) : (ptJ x p it).length ≤ x.size:=by
 have h1 : (ptop1 x p it).length ≤ 1:=by unfold ptop1;split <;> simp
 have h2:=ptopL_len x.ks (p+1) it
 have h3:=sizes_len x.ks
 have h4:=x.size_eq
 unfold ptJ
 rw [List.length_append]
 split
 ·omega
 ·simp;omega
theorem ptJL_len : ∀ (l : List Nd) (p it : Int),(ptJL l p it).length ≤ sizes l
 | [],p,it=>by simp [ptJL]
 | x :: l,p,it=>by
  have:=ptJL_len l (p+x.size) (it+1)
  have h1:=ptJ_len x p it
  rw [ptJL,List.length_append,sizes_cons]
  omega
def Jn (c : Rc) (nb mb : Nat) (vo : Value) (ib : Nat) (W0 : World) (T : List Tp) (n : Int) (X : World) : Prop :=
 ∃ vt',Tv c nb mb vo X vt' T∧X.heap[ib]?=some (.cells #[.int .i64 n] 3 (0,0))∧Kpt (fun b=>OwnT c mb (.slice none 0 0) b ∨ b=ib) W0 X∧∀ k,vt'.ownBlock=some k→W0.heap.size ≤ k
section
variable {c : Rc} {nb mb ib : Nat} {vo : Value} {W0 X Z : World} {T : List Tp} {n : Int}
theorem Jn.bel (h : Jn c nb mb vo ib W0 T n X) (b : Below X.heap.size X Z) : Jn c nb mb vo ib W0 T n Z:=by
 obtain ⟨vt',h1,hi,h2,h3⟩:=h
 exact ⟨vt',h1.bel b,(b.block _ (gl hi)).trans hi,h2.trans (Kpt.of b (M:=fun b=>OwnT c mb (.slice none 0 0) b ∨ b=ib)) (fun _ _ q=>q),h3⟩
theorem Jn.put (h : Jn c nb mb vo ib W0 T n X) {l : Nat} (hl : W0.heap.size ≤ l) (hc : ∀ cs t fr,X.heap[l]? ≠ some (.cells cs t fr)) (hm : ∀ es cl,X.heap[l]? ≠ some (.map es cl)) (o : Obj) : Jn c nb mb vo ib W0 T n (X.putObj l o):=by
 obtain ⟨vt',h1,hi,h2,h3⟩:=h
 have j : Ji c nb mb vo X vt' T X:=⟨vt',h1,Kpt.refl _ _,fun k hk=>.inl hk⟩
 have ne : ib ≠ l:=fun e=>hc _ _ _ (e ▸ hi)
 have ne2 : ∀ {k : Nat} {cs : Array Value} {t : TypeId} {fr : Nat × Nat},X.heap[k]?=some (Obj.cells cs t fr)→k ≠ l:=fun {k cs t fr} hk e=>hc _ _ _ (e ▸ hk)
 obtain ⟨m,hm1⟩:=h1.m
 have hm0:=hm1
 obtain ⟨es,cl,hb,_⟩:=hm0
 have nm : mb ≠ l:=fun e=>hm _ _ (e ▸ hb)
 obtain ⟨base,hz⟩:=h1.z
 obtain ⟨cz,hzc⟩:=own_cells hz (g:=c.sb) rfl
 have bp : Below W0.heap.size X (X.putObj l o):=below_put _ hl
 refine ⟨vt',⟨(World.putObj_heap_other (ne2 h1.r)).trans h1.r,(World.putObj_heap_other (ne2 h1.s)).trans h1.s,⟨m,MF.keep hm1 (World.putObj_heap_other nm)⟩,rw_keep h1.t fun k hk=>?_,h1.z.keep (World.putObj_heap_other (ne2 hzc)),Nat.le_trans h1.b bp.size⟩,(World.putObj_heap_other ne).trans hi,⟨bp.os.trans h2.os,bp.tape.trans h2.tape,bp.output.trans h2.output,Nat.le_trans h2.size bp.size,fun k hk hn=>(bp.block k hk).trans (h2.block k hk hn)⟩,h3⟩
 obtain ⟨cur,hb⟩:=own_cells h1.t hk
 exact World.putObj_heap_other (ne2 hb)
theorem Tv.setI {vt : Value} (h : Tv c nb mb vo X vt T) {u : Value} (hi : X.heap[ib]?=some (.cells #[u] 3 (0,0))) (hne : c.sb ≠ ib) (v : Value) : Tv c nb mb vo (X.setCell ⟨ib,0,none⟩ v) vt T:=by
 have hs : ∀ k,k ≠ ib→(X.setCell ⟨ib,0,none⟩ v).heap[k]?=X.heap[k]?:=fun k hk=>Below.heap_setCell _ _ _ _ hk
 have far:=h.far hi (by decide)
 obtain ⟨m,hm1⟩:=h.m
 refine ⟨(hs _ (fun e=>far (.inl e.symm))).trans h.r,(hs _ (fun e=>?_)).trans h.s,⟨m,MF.keep hm1 (hs _ (fun e=>far (.inr (.inl e.symm))))⟩,rw_keep h.t fun k hk=>hs k (fun e=>far (.inr (.inr (by rw [← e];exact hk)))),h.z.keep (hs _ hne),by simp [World.setCell];exact h.b⟩
 have h1:=h.s
 rw [e,hi] at h1
 injection h1 with h1
 injection h1 with _ h1
 exact absurd h1 (by decide)
theorem Jn.box {vt : Value} (h0 : Tv c nb mb vo W0 (.slice none 0 0) [] ) {m : Int} (i0 : W0.heap[ib]?=some (.cells #[.int .i64 m] 3 (0,0))) (h : Jn c nb mb vo ib W0 T n X) {k : Nat} {cs : Array Value} {t : TypeId} {fr : Nat × Nat} (hk : W0.heap[k]?=some (.cells cs t fr)) (ht : t ≠ 58∧t ≠ 43∧t ≠ 3) : X.heap[k]?=some (.cells cs t fr):=by
 obtain ⟨vt',h1,hi,h2,h3⟩:=h
 refine (h2.block k (gl hk) (fun q=>?_)).trans hk
 rcases q with q | q
 ·exact h0.far hk ⟨ht.1,ht.2.1⟩ q
 ·rw [q,i0] at hk;injection hk with hk;injection hk with _ hk;exact ht.2.2 hk.symm
end
end Go.Proofs.YtfcocoadaajbjaaGreatDoor
