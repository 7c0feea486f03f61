/- Own text. Package parse: what is read has its form (of the model; no program is named here). Tokens of a source: their names are names, their numbers may be, their texts are runes. The document's Form, of an expression, a type, a statement that is whole. ParseForms: the walk. From the arguments as they are read to texts, and back: below the call's start nothing has turned, so all arguments read as they did. -/
import Derived.Test.YtmfgcaffdkakhaaGreatMM
import Derived.Test.YtmfgcaffdkakhaaGreatM3
import Derived.Test.YtmfgcaffdkakhaaGreatFF
import Derived.Test.YtmfgcaffdkakhaaGreatTN
import Derived.Test.YtmfgcaffdkakhaaGreatXX
import Derived.Test.YtmfgcaffdkakhaaGreatUU
import Derived.Test.YtmfgcaffdkakhaaGreatGI
import Derived.Test.YtmfgcaffdkakhaaGreatM8
import Derived.Test.YtmfgcaffdkakhaaGreatShelf
import Derived.Test.YtmfgcaffdkakhaaGreatRows
import Derived.ProofKit
import Derived.OpenShut
import Derived.JoinedCond
import Derived.SizedLaws
import Derived.Carry
namespace Go.Proofs.YtmfgcaffdkakhaaGreat
open Go.RowKit
set_option linter.unusedVariables false
set_option linter.unusedSimpArgs false
set_option maxRecDepth 100000

/-- a whole tree of small texts. -/
def Gx (x : Nd) : Prop := wholeP false x = true ∧ x.tx
def XE (x : Nd) : Prop := formK x.k = 1 ∧ Gx x
def XT (x : Nd) : Prop := formK x.k = 2 ∧ Gx x
def XS (x : Nd) : Prop := formK x.k = 3 ∧ Gx x
def XK (k : Int) (x : Nd) : Prop := x.k = k ∧ Gx x
def XTo (x : Nd) : Prop := XT x ∨ XK 14 x
def XEo (x : Nd) : Prop := XE x ∨ XK 14 x
def XBo (x : Nd) : Prop := XK 52 x ∨ XK 14 x
/-- tokens that a source may have. -/
structure NmT (L : List Tok) : Prop where
  id : ∀ a, (tokA L a).k = 1 → idT false (tokA L a).t = true
  wd : ∀ a, (tokA L a).k = 2 → propT false (tokA L a).t.data.toList = true
  num : ∀ a, (tokA L a).k = 3 → 0 ≤ (tokA L a).n ∧ (tokA L a).n ≤ 9007199254740991
  txt : ∀ a, (tokA L a).k = 4 → validL (tokA L a).t.data.toList = true
  sz : ∀ a, (tokA L a).t.size ≤ 4194304
theorem tx_mk {k : Int} {t : ByteArray} {n : Int} {ks : List Nd} (hz : t.size ≤ 4194304) (h : ∀ y ∈ ks, y.tx) : (Nd.mk k t n ks).tx := by
  intro z hz'
  rw [Nd.flat_eq] at hz'
  rcases List.mem_cons.1 hz' with rfl | hz'
  · exact hz
  · obtain ⟨x, hx, hxz⟩ := flats_elim hz'
    exact h x hx z hxz
theorem node {k : Int} {t : ByteArray} {n : Int} {ks : List Nd} (r : Rul) (hr : ruleK k = some r) (ht : saysT false r.t t = true) (hz : t.size ≤ 4194304) (hn : 0 ≤ n) (hm : n ≤ r.m) (hl : r.ks.length ≤ ks.length) (hf : fitsL false r.ks r.r ks = true) (ha : agreesP false (.mk k t n ks) = true) (hx : ∀ y ∈ ks, y.tx) : Gx (.mk k t n ks) := by
  refine ⟨?_, tx_mk hz hx⟩
  have e : wholeP false (.mk k t n ks) = (folP false (.mk k t n ks) r && agreesP false (.mk k t n ks)) := by
    unfold wholeP
    rw [show (Nd.mk k t n ks).k = k from rfl, hr]
  rw [e, ha]
  have e2 : folP false (.mk k t n ks) r = (hdB false t n ks.length r && fitsL false r.ks r.r ks) := rfl
  rw [e2, hf]
  unfold hdB
  rw [ht, decide_eq_false (by omega : ¬ n < 0), decide_eq_false (by omega : ¬ r.m < n), decide_eq_false (by omega : ¬ ks.length < r.ks.length)]
  rfl
theorem fit {p : Int} {x : Nd} (hp : p ≠ 114) (hs : standsK p x.k = true) (h : Gx x) : fitsP false p x = true := by
  rw [fitsP_eq, if_neg (fun e => hp e.1), hs, h.1]
  rfl
theorem XE.fit {x : Nd} (h : XE x) : fitsP false 101 x = true := Go.Proofs.YtmfgcaffdkakhaaGreat.fit (by decide) (by unfold standsK; rw [if_pos rfl, h.1]; rfl) h.2
theorem XEo.fit {x : Nd} (h : XEo x) : fitsP false 102 x = true := by
  rcases h with h | h
  · exact Go.Proofs.YtmfgcaffdkakhaaGreat.fit (by decide) (by simp [standsK, h.1]) h.2
  · exact Go.Proofs.YtmfgcaffdkakhaaGreat.fit (by decide) (by simp [standsK, h.1]) h.2
theorem XT.fit {x : Nd} (h : XT x) : fitsP false 104 x = true := Go.Proofs.YtmfgcaffdkakhaaGreat.fit (by decide) (by simp [standsK, h.1]) h.2
theorem XT.fit5 {x : Nd} (h : XT x) (hk : x.k ≠ 32) : fitsP false 105 x = true := Go.Proofs.YtmfgcaffdkakhaaGreat.fit (by decide) (by simp [standsK, h.1, hk]) h.2
theorem XTo.fit {x : Nd} (h : XTo x) : fitsP false 106 x = true := by
  rcases h with h | h
  · exact Go.Proofs.YtmfgcaffdkakhaaGreat.fit (by decide) (by simp [standsK, h.1]) h.2
  · exact Go.Proofs.YtmfgcaffdkakhaaGreat.fit (by decide) (by simp [standsK, h.1]) h.2
theorem XS.fit {x : Nd} (h : XS x) : fitsP false 107 x = true := Go.Proofs.YtmfgcaffdkakhaaGreat.fit (by decide) (by simp [standsK, h.1]) h.2
theorem XBo.fit {x : Nd} (h : XBo x) : fitsP false 108 x = true := by
  rcases h with h | h
  · exact Go.Proofs.YtmfgcaffdkakhaaGreat.fit (by decide) (by simp [standsK, h.1]) h.2
  · exact Go.Proofs.YtmfgcaffdkakhaaGreat.fit (by decide) (by simp [standsK, h.1]) h.2
theorem fit_k {k : Int} {x : Nd} (hk : k < 100) (h : XK k x) : fitsP false k x = true := by
  refine Go.Proofs.YtmfgcaffdkakhaaGreat.fit (by omega) ?_ h.2
  unfold standsK
  rw [if_neg (by omega), if_neg (by omega), if_neg (by omega), if_neg (by omega), if_neg (by omega), if_neg (by omega), if_neg (by omega), if_neg (by omega), if_neg (by omega), if_neg (by omega), if_neg (by omega), if_neg (by omega), if_neg (by omega), if_neg (by omega), h.1]
  simp
theorem fitsL_each {r : Int} : ∀ {l : List Nd}, (∀ y ∈ l, fitsP false r y = true) → fitsL false [] r l = true
  | [], _ => by rw [fitsL]
  | y :: l, h => by
    rw [fitsL, List.headD_nil, h y (by simp), List.tail_nil, fitsL_each (fun z hz => h z (by simp [hz]))]
    rfl
theorem fits_one {p r : Int} {ps : List Int} {y : Nd} {l : List Nd} (h : fitsP false p y = true) (hl : fitsL false ps r l = true) : fitsL false (p :: ps) r (y :: l) = true := by
  rw [fitsL, List.headD_cons, h, List.tail_cons, hl]
  rfl
theorem fits_end {r : Int} : fitsL false [] r [] = true := by rw [fitsL]
theorem mt_sz : mtT.size ≤ 4194304 := by decide
theorem mt_say : saysT false 0 mtT = true := by decide +kernel
theorem no_kid : ∀ y ∈ ([] : List Nd), y.tx := fun y h => by cases h
theorem kid1 {x : Nd} (hx : x.tx) : ∀ y ∈ [x], y.tx := fun y h => by obtain rfl := List.mem_singleton.1 h; exact hx
theorem kid2 {x z : Nd} (hx : x.tx) (hz : z.tx) : ∀ y ∈ [x, z], y.tx := fun y h => by
  rcases List.mem_cons.1 h with rfl | h
  · exact hx
  · exact kid1 hz y h
theorem kid3 {x z u : Nd} (hx : x.tx) (hz : z.tx) (hu : u.tx) : ∀ y ∈ [x, z, u], y.tx := fun y h => by
  rcases List.mem_cons.1 h with rfl | h
  · exact hx
  · exact kid2 hz hu y h
theorem n_none : XK 14 noneN := ⟨rfl, node ⟨0, 0, [], 0⟩ rfl mt_say mt_sz (by decide) (by decide) (by decide) fits_end rfl no_kid⟩
variable {L : List Tok}
theorem n_num (N : NmT L) {a : Nat} (h : (tokA L a).k = 3) : XE (.mk 1 mtT (tokA L a).n []) := ⟨rfl, node ⟨0, 9007199254740991, [], 0⟩ rfl mt_say mt_sz (N.num a h).1 (N.num a h).2 (by decide) fits_end rfl no_kid⟩
theorem n_text (N : NmT L) {a : Nat} (h : (tokA L a).k = 4) : XE (mk0 2 (tokA L a).t []) := ⟨rfl, node ⟨6, 0, [], 0⟩ rfl (by show validL _ = true; exact N.txt a h) (N.sz a) (by decide) (by decide) (by decide) fits_end rfl no_kid⟩
theorem n_name {t : ByteArray} (h : idT false t = true) (hz : t.size ≤ 4194304) : XE (mk0 6 t []) := ⟨rfl, node ⟨1, 0, [], 0⟩ rfl (by show idT false _ = true; exact h) hz (by decide) (by decide) (by decide) fits_end rfl no_kid⟩
theorem n_plain {k n : Int} (hk : (k = 3 ∧ (n = 0 ∨ n = 1)) ∨ ((k = 4 ∨ k = 5 ∨ k = 7) ∧ n = 0)) : XE (.mk k mtT n []) := by
  rcases hk with ⟨rfl, h | h⟩ | ⟨h | h | h, h2⟩
  · subst h; exact ⟨rfl, node ⟨0, 1, [], 0⟩ rfl mt_say mt_sz (by decide) (by decide) (by decide) fits_end rfl no_kid⟩
  · subst h; exact ⟨rfl, node ⟨0, 1, [], 0⟩ rfl mt_say mt_sz (by decide) (by decide) (by decide) fits_end rfl no_kid⟩
  · subst h h2; exact ⟨rfl, node ⟨0, 0, [], 0⟩ rfl mt_say mt_sz (by decide) (by decide) (by decide) fits_end rfl no_kid⟩
  · subst h h2; exact ⟨rfl, node ⟨0, 0, [], 0⟩ rfl mt_say mt_sz (by decide) (by decide) (by decide) fits_end rfl no_kid⟩
  · subst h h2; exact ⟨rfl, node ⟨0, 0, [], 0⟩ rfl mt_say mt_sz (by decide) (by decide) (by decide) fits_end rfl no_kid⟩
theorem n_arr {l : List Nd} (h : ∀ y ∈ l, XE y) : XE (mk0 8 mtT l) := ⟨rfl, node ⟨0, 0, [], 101⟩ rfl mt_say mt_sz (by decide) (by decide) (by simp) (fitsL_each (fun y hy => (h y hy).fit)) rfl (fun y hy => (h y hy).2.2)⟩
theorem n_obj {l : List Nd} (h : ∀ y ∈ l, XK 10 y) : XE (mk0 9 mtT l) := ⟨rfl, node ⟨0, 0, [], 10⟩ rfl mt_say mt_sz (by decide) (by decide) (by simp) (fitsL_each (fun y hy => fit_k (by decide) (h y hy))) rfl (fun y hy => (h y hy).2.2)⟩
theorem n_func {p t b : Nd} (hp : XK 12 p) (ht : XTo t) (hb : XK 52 b) : XE (mk0 11 mtT [p, t, b]) :=
  ⟨rfl, node ⟨0, 0, [12, 106, 52], 0⟩ rfl mt_say mt_sz (by decide) (by decide) (Nat.le_refl _) (fits_one (fit_k (by decide) hp) (fits_one ht.fit (fits_one (fit_k (by decide) hb) fits_end))) rfl (kid3 hp.2.2 (ht.elim (fun h => h.2.2) (fun h => h.2.2)) hb.2.2)⟩
theorem n_un {t : ByteArray} {n : Nd} (ht : t.data.toList ∈ unaryL) (hz : t.size ≤ 4194304) (hn : XE n) : XE (mk0 15 t [n]) := ⟨rfl, node ⟨7, 0, [101], 0⟩ rfl (by show decide _ = true; exact decide_eq_true ht) hz (by decide) (by decide) (Nat.le_refl _) (fits_one hn.fit fits_end) rfl (kid1 hn.2.2)⟩
theorem n_bin {t : ByteArray} {n r : Nd} (ht : t.data.toList ∈ binaryL) (hz : t.size ≤ 4194304) (hn : XE n) (hr : XE r) : XE (mk0 16 t [n, r]) := ⟨rfl, node ⟨8, 0, [101, 101], 0⟩ rfl (by show decide _ = true; exact decide_eq_true ht) hz (by decide) (by decide) (Nat.le_refl _) (fits_one hn.fit (fits_one hr.fit fits_end)) rfl (kid2 hn.2.2 hr.2.2)⟩
theorem n_cond {n t e : Nd} (hn : XE n) (ht : XE t) (he : XE e) : XE (mk0 17 mtT [n, t, e]) := ⟨rfl, node ⟨0, 0, [101, 101, 101], 0⟩ rfl mt_say mt_sz (by decide) (by decide) (Nat.le_refl _) (fits_one hn.fit (fits_one ht.fit (fits_one he.fit fits_end))) rfl (kid3 hn.2.2 ht.2.2 he.2.2)⟩
theorem n_assign {n v : Nd} (hk : n.k = 6 ∨ n.k = 21 ∨ n.k = 22) (hn : XE n) (hv : XE v) : XE (mk0 18 mtT [n, v]) := ⟨rfl, node ⟨0, 0, [103, 101], 0⟩ rfl mt_say mt_sz (by decide) (by decide) (Nat.le_refl _) (fits_one (fit (by decide) (by unfold standsK; rcases hk with h | h | h <;> rw [h] <;> decide) hn.2) (fits_one hv.fit fits_end)) rfl (kid2 hn.2.2 hv.2.2)⟩
theorem n_call {n : Nd} {l : List Nd} (hn : XE n) (h : ∀ y ∈ l, XE y) : XE (mk0 19 mtT (n :: l)) := ⟨rfl, node ⟨0, 0, [101], 101⟩ rfl mt_say mt_sz (by decide) (by decide) (by simp) (fits_one hn.fit (fitsL_each (fun y hy => (h y hy).fit))) rfl (fun y hy => by
  rcases List.mem_cons.1 hy with rfl | hy
  · exact hn.2.2
  · exact (h y hy).2.2)⟩
theorem n_new {t : ByteArray} {l : List Nd} (ht : idT false t = true) (hz : t.size ≤ 4194304) (h : ∀ y ∈ l, XE y) : XE (mk0 20 t l) := ⟨rfl, node ⟨1, 0, [], 101⟩ rfl (by show idT false _ = true; exact ht) hz (by decide) (by decide) (by simp) (fitsL_each (fun y hy => (h y hy).fit)) rfl (fun y hy => (h y hy).2.2)⟩
theorem n_member {t : ByteArray} {n : Nd} (ht : propT false t.data.toList = true) (hz : t.size ≤ 4194304) (hn : XE n) : XE (mk0 21 t [n]) := ⟨rfl, node ⟨2, 0, [101], 0⟩ rfl (by show propT false _ = true; exact ht) hz (by decide) (by decide) (Nat.le_refl _) (fits_one hn.fit fits_end) rfl (kid1 hn.2.2)⟩
theorem n_index {n k : Nd} (hn : XE n) (hk : XE k) : XE (mk0 22 mtT [n, k]) := ⟨rfl, node ⟨0, 0, [101, 101], 0⟩ rfl mt_say mt_sz (by decide) (by decide) (Nat.le_refl _) (fits_one hn.fit (fits_one hk.fit fits_end)) rfl (kid2 hn.2.2 hk.2.2)⟩
theorem n_prop {t : ByteArray} {e : Nd} (ht : propT false t.data.toList = true) (hz : t.size ≤ 4194304) (he : XE e) : XK 10 (mk0 10 t [e]) := ⟨rfl, node ⟨2, 0, [101], 0⟩ rfl (by show propT false _ = true; exact ht) hz (by decide) (by decide) (Nat.le_refl _) (fits_one he.fit fits_end) rfl (kid1 he.2.2)⟩
theorem n_param {t : ByteArray} {y : Nd} (ht : idT false t = true) (hz : t.size ≤ 4194304) (hy : XTo y) : XK 13 (mk0 13 t [y]) := ⟨rfl, node ⟨1, 0, [106], 0⟩ rfl (by show idT false _ = true; exact ht) hz (by decide) (by decide) (Nat.le_refl _) (fits_one hy.fit fits_end) rfl (kid1 (hy.elim (fun h => h.2.2) (fun h => h.2.2)))⟩
theorem n_params {l : List Nd} (h : ∀ y ∈ l, XK 13 y) (hu : unlikeB l = true) : XK 12 (mk0 12 mtT l) := ⟨rfl, node ⟨0, 0, [], 13⟩ rfl mt_say mt_sz (by decide) (by decide) (by simp) (fitsL_each (fun y hy => fit_k (by decide) (h y hy))) (by show unlikeB l = true; exact hu) (fun y hy => (h y hy).2.2)⟩
theorem n_tname {t : ByteArray} (ht : saysT false 5 t = true) (hz : t.size ≤ 4194304) : XT (mk0 30 t []) := ⟨rfl, node ⟨5, 0, [], 0⟩ rfl ht hz (by decide) (by decide) (by decide) fits_end rfl no_kid⟩
theorem n_tarr {n : Nd} (hn : XT n) : XT (mk0 31 mtT [n]) := ⟨rfl, node ⟨0, 0, [104], 0⟩ rfl mt_say mt_sz (by decide) (by decide) (Nat.le_refl _) (fits_one hn.fit fits_end) rfl (kid1 hn.2.2)⟩
theorem n_tprop {t : ByteArray} {y : Nd} (ht : propT false t.data.toList = true) (hz : t.size ≤ 4194304) (hy : XT y) : XK 34 (mk0 34 t [y]) := ⟨rfl, node ⟨2, 0, [104], 0⟩ rfl (by show propT false _ = true; exact ht) hz (by decide) (by decide) (Nat.le_refl _) (fits_one hy.fit fits_end) rfl (kid1 hy.2.2)⟩
theorem n_tobj {l : List Nd} (h : ∀ y ∈ l, XK 34 y) (hu : unlikeB l = true) : XT (mk0 33 mtT l) := ⟨rfl, node ⟨0, 0, [], 34⟩ rfl mt_say mt_sz (by decide) (by decide) (by simp) (fitsL_each (fun y hy => fit_k (by decide) (h y hy))) (by show unlikeB l = true; exact hu) (fun y hy => (h y hy).2.2)⟩
theorem n_tfunc {p t : Nd} (hp : XK 12 p) (hty : ∀ y ∈ p.ks, hk0 y ≠ 14) (ht : XT t) : XT (mk0 35 mtT [p, t]) := ⟨rfl, node ⟨0, 0, [12, 104], 0⟩ rfl mt_say mt_sz (by decide) (by decide) (Nat.le_refl _) (fits_one (fit_k (by decide) hp) (fits_one ht.fit fits_end)) (by
  show (!p.ks.any fun y => hk0 y == 14) = true
  rw [Bool.not_eq_true', List.any_eq_false]
  intro y hy
  simp [hty y hy]) (kid2 hp.2.2 ht.2.2)⟩
theorem n_union {l : List Nd} (h : ∀ y ∈ l, XT y ∧ y.k ≠ 32) (hl : 2 ≤ l.length) : XT (mk0 32 mtT l) := by
  refine ⟨rfl, node ⟨0, 0, [105, 105], 105⟩ rfl mt_say mt_sz (by decide) (by decide) (by simpa using hl) ?_ rfl (fun y hy => (h y hy).1.2.2)⟩
  obtain ⟨x, z, l', rfl⟩ : ∃ x z l', l = x :: z :: l' := by
    match l, hl with
    | x :: z :: l', _ => exact ⟨x, z, l', rfl⟩
  exact fits_one ((h x (by simp)).1.fit5 (h x (by simp)).2) (fits_one ((h z (by simp)).1.fit5 (h z (by simp)).2) (fitsL_each (fun y hy => (h y (by simp [hy])).1.fit5 (h y (by simp [hy])).2)))
theorem n_let {t : ByteArray} {n : Int} {y e : Nd} (ht : idT false t = true) (hz : t.size ≤ 4194304) (hn : n = 0 ∨ n = 1) (hy : XTo y) (he : XE e) : XS (.mk 40 t n [y, e]) := ⟨rfl, node ⟨1, 1, [106, 101], 0⟩ rfl (by show idT false _ = true; exact ht) hz (by omega) (by show n ≤ 1; omega) (Nat.le_refl _) (fits_one hy.fit (fits_one he.fit fits_end)) rfl (kid2 (hy.elim (fun h => h.2.2) (fun h => h.2.2)) he.2.2)⟩
theorem n_fn {t : ByteArray} {p y b : Nd} (ht : idT false t = true) (hz : t.size ≤ 4194304) (hp : XK 12 p) (hy : XTo y) (hb : XK 52 b) : XS (mk0 41 t [p, y, b]) := ⟨rfl, node ⟨1, 0, [12, 106, 52], 0⟩ rfl (by show idT false _ = true; exact ht) hz (by decide) (by decide) (Nat.le_refl _) (fits_one (fit_k (by decide) hp) (fits_one hy.fit (fits_one (fit_k (by decide) hb) fits_end))) rfl (kid3 hp.2.2 (hy.elim (fun h => h.2.2) (fun h => h.2.2)) hb.2.2)⟩
theorem n_if {c b e : Nd} (hc : XE c) (hb : XK 52 b) (he : XBo e) : XS (mk0 48 mtT [c, b, e]) := ⟨rfl, node ⟨0, 0, [101, 52, 108], 0⟩ rfl mt_say mt_sz (by decide) (by decide) (Nat.le_refl _) (fits_one hc.fit (fits_one (fit_k (by decide) hb) (fits_one he.fit fits_end))) rfl (kid3 hc.2.2 hb.2.2 (he.elim (fun h => h.2.2) (fun h => h.2.2)))⟩
theorem n_while {c b : Nd} (hc : XE c) (hb : XK 52 b) : XS (mk0 49 mtT [c, b]) := ⟨rfl, node ⟨0, 0, [101, 52], 0⟩ rfl mt_say mt_sz (by decide) (by decide) (Nat.le_refl _) (fits_one hc.fit (fits_one (fit_k (by decide) hb) fits_end)) rfl (kid2 hc.2.2 hb.2.2)⟩
theorem n_ret {e : Nd} (he : XEo e) : XS (mk0 50 mtT [e]) := ⟨rfl, node ⟨0, 0, [102], 0⟩ rfl mt_say mt_sz (by decide) (by decide) (Nat.le_refl _) (fits_one he.fit fits_end) rfl (kid1 (he.elim (fun h => h.2.2) (fun h => h.2.2)))⟩
theorem n_one {k : Int} {e : Nd} (hk : k = 47 ∨ k = 51) (he : XE e) : XS (mk0 k mtT [e]) := by
  rcases hk with rfl | rfl
  · exact ⟨rfl, node ⟨0, 0, [101], 0⟩ rfl mt_say mt_sz (by decide) (by decide) (Nat.le_refl _) (fits_one he.fit fits_end) rfl (kid1 he.2.2)⟩
  · exact ⟨rfl, node ⟨0, 0, [101], 0⟩ rfl mt_say mt_sz (by decide) (by decide) (Nat.le_refl _) (fits_one he.fit fits_end) rfl (kid1 he.2.2)⟩
theorem n_block {l : List Nd} (h : ∀ y ∈ l, XS y) : XK 52 (mk0 52 mtT l) := ⟨rfl, node ⟨0, 0, [], 107⟩ rfl mt_say mt_sz (by decide) (by decide) (by simp) (fitsL_each (fun y hy => (h y hy).fit)) rfl (fun y hy => (h y hy).2.2)⟩
theorem blk_s {x : Nd} (h : XK 52 x) : XS x := ⟨by rw [h.1]; rfl, h.2⟩

/-- leaves. -/
theorem want_w {a : Nat} {s : ByteArray} : Zg (fun _ _ => True) (wantR L s a) := fun _ _ _ => trivial
theorem begin_w {a o : Nat} : Zg (fun _ _ => True) (beginR L a o) := fun _ _ _ => trivial
theorem id_w (N : NmT L) {a : Nat} : Zg (fun t _ => idT false t = true ∧ t.size ≤ 4194304) (idR L a) := Zg.ite (fun h => Zg.ok ⟨N.id a (by simpa [isN] using h), N.sz a⟩) (fun _ => Zg.bad)
theorem id_prop {t : ByteArray} (h : idT false t = true) : propT false t.data.toList = true := by
  unfold idT at h
  simp only [Bool.and_eq_true] at h
  exact h.1
theorem prop_w (N : NmT L) {a : Nat} : Zg (fun t b => (propT false t.data.toList = true ∧ t.size ≤ 4194304) ∧ (isN L a = true → idT false t = true)) (propR' L a) := Zg.ite (fun h => Zg.ok ⟨⟨h.elim (fun h => id_prop (N.id a (by simpa [isN] using h))) (fun h => N.wd a h), N.sz a⟩, fun h => N.id a (by simpa [isN] using h)⟩) (fun _ => Zg.bad)
theorem mem_snoc {Q : Nd → Prop} {acc : List Nd} {x : Nd} (h : ∀ y ∈ acc, Q y) (hx : Q x) : ∀ y ∈ acc ++ [x], Q y := fun y hy => by
  rcases List.mem_append.1 hy with hy | hy
  · exact h y hy
  · obtain rfl := List.mem_singleton.1 hy
    exact hx
theorem listG_w {σ : Type} {s : ByteArray} {Q : Nd → Prop} {F : σ → Nat → Rs (Nd × σ)} (hF : ∀ st a, Zg (fun x _ => Q x.1) (F st a)) : ∀ (n : Nat) (acc : List Nd) (st : σ) (a : Nat), (∀ y ∈ acc, Q y) → Zg (fun l _ => ∀ y ∈ l, Q y) (listG L s F n acc st a)
  | 0, _, _, _, _ => Zg.bad
  | n + 1, acc, st, a, h => by
    rw [listG]
    refine Zg.ite (fun _ => Zg.ok h) (fun _ => ?_)
    cases e : F st a with
    | bad p er => exact Zg.bad
    | ok x a1 =>
      have h1 := hF st a x a1 e
      exact Zg.ite (fun _ => listG_w hF n _ _ _ (mem_snoc h h1)) (fun _ => Zg.ite (fun _ => listG_w hF n _ _ _ (mem_snoc h h1)) (fun _ => Zg.bad))
theorem listE_w {s : ByteArray} {Q : Nd → Prop} {E : Nat → Rs Nd} (hE : ∀ a, Zg (fun x _ => Q x) (E a)) {a : Nat} : Zg (fun l _ => ∀ y ∈ l, Q y) (listE L E s a) :=
  listG_w (Q := Q) (fun st a => (hE a).bind (fun x c h => Zg.ok h)) _ _ _ _ (fun y h => by cases h)
theorem stmtsG_w {F : Nat → Rs Nd} (hF : ∀ a, Zg (fun x _ => XS x) (F a)) : ∀ (n : Nat) (acc : List Nd) (a : Nat), (∀ y ∈ acc, XS y) → Zg (fun l _ => ∀ y ∈ l, XS y) (stmtsG L F n acc a)
  | 0, _, _, _ => Zg.bad
  | n + 1, acc, a, h => by
    rw [stmtsG]
    refine Zg.ite (fun _ => Zg.ok h) (fun _ => ?_)
    cases e : F a with
    | bad p er => exact Zg.bad
    | ok x a1 => exact stmtsG_w hF n _ _ (mem_snoc h (hF a x a1 e))
theorem blockG_w {F : Nat → Rs Nd} (hF : ∀ a, Zg (fun x _ => XS x) (F a)) {a : Nat} : Zg (fun x _ => XK 52 x) (blockG L F a) :=
  want_w.bind fun _ _ _ => (stmtsG_w hF _ _ _ (fun y h => by cases h)).bind fun l b h2 => Zg.ok (n_block h2)
/-- the names so far. -/
def Nms (l : List Nd) (ns : List (List UInt8)) : Prop := (l.map fun x => x.t.data.toList) = ns ∧ ns.Nodup
theorem nms_nil : Nms [] [] := ⟨rfl, List.nodup_nil⟩
theorem Nms.snoc {l : List Nd} {ns : List (List UInt8)} (h : Nms l ns) {x : Nd} {t : List UInt8} (hx : x.t.data.toList = t) (ht : t ∉ ns) : Nms (l ++ [x]) (ns ++ [t]) := by
  refine ⟨by simp [h.1, hx], ?_⟩
  rw [List.nodup_append]
  refine ⟨h.2, by simp, ?_⟩
  intro a ha b hb e
  obtain rfl := List.mem_singleton.1 hb
  exact ht (e ▸ ha)
theorem Nms.unlike {l : List Nd} {ns : List (List UInt8)} (h : Nms l ns) : unlikeB l = true := by
  unfold unlikeB
  rw [h.1]
  exact decide_eq_true h.2
theorem add_w {a : Nat} {ns : List (List UInt8)} : Zg (fun ns1 b => b = a ∧ (tokA L a).t.data.toList ∉ ns ∧ ns1 = ns ++ [(tokA L a).t.data.toList]) (addR L ns a) := Zg.ite (fun _ => Zg.bad) (fun h => Zg.ok ⟨rfl, h, rfl⟩)
theorem id_t {a : Nat} : Zg (fun t _ => t = (tokA L a).t) (idR L a) := Zg.ite (fun _ => Zg.ok rfl) (fun _ => Zg.bad)
theorem prop_t {a : Nat} : Zg (fun t _ => t = (tokA L a).t) (propR' L a) := Zg.ite (fun _ => Zg.ok rfl) (fun _ => Zg.bad)
theorem Zg.and {α : Type} {P Q : α → Nat → Prop} {r : Rs α} (h1 : Zg P r) (h2 : Zg Q r) : Zg (fun x b => P x b ∧ Q x b) r := fun x b e => ⟨h1 x b e, h2 x b e⟩
theorem parG_w (N : NmT L) {PG : Nd → Prop} (hPG : ∀ y, PG y → XTo y) {G : Nat → Rs Nd} (hG : ∀ a, Zg (fun y _ => PG y) (G a)) (ns : List (List UInt8)) (a : Nat) :
    Zg (fun x _ => (XK 13 x.1 ∧ ∃ y, x.1.ks = [y] ∧ PG y) ∧ ∀ acc, Nms acc ns → Nms (acc ++ [x.1]) x.2) (parG L G ns a) :=
  add_w.bind fun ns1 _ h1 => ((id_w N).and id_t).bind fun t _ h2 => (hG _).bind fun y c h3 => Zg.ok ⟨⟨n_param h2.1.1 h2.1.2 (hPG y h3), y, rfl, h3⟩, fun acc h => by
    show Nms (acc ++ [mk0 13 t [y]]) ns1
    rw [h1.2.2]
    exact h.snoc (by show t.data.toList = _; rw [h2.2]) h1.2.1⟩
theorem listP_w (N : NmT L) {PG : Nd → Prop} (hPG : ∀ y, PG y → XTo y) {G : Nat → Rs Nd} (hG : ∀ a, Zg (fun y _ => PG y) (G a)) {s : ByteArray} : ∀ (n : Nat) (acc : List Nd) (ns : List (List UInt8)) (a : Nat), (∀ y ∈ acc, XK 13 y ∧ ∃ z, y.ks = [z] ∧ PG z) → Nms acc ns → Zg (fun l _ => (∀ y ∈ l, XK 13 y ∧ ∃ z, y.ks = [z] ∧ PG z) ∧ unlikeB l = true) (listG L s (parG L G) n acc ns a)
  | 0, _, _, _, _, _ => Zg.bad
  | n + 1, acc, ns, a, h, hn => by
    rw [listG]
    refine Zg.ite (fun _ => Zg.ok ⟨h, hn.unlike⟩) (fun _ => ?_)
    cases e : parG L G ns a with
    | bad p er => exact Zg.bad
    | ok x a1 =>
      have h1 := parG_w N hPG hG ns a x a1 e
      exact Zg.ite (fun _ => listP_w N hPG hG n _ _ _ (mem_snoc h h1.1) (h1.2 acc hn)) (fun _ => Zg.ite (fun _ => listP_w N hPG hG n _ _ _ (mem_snoc h h1.1) (h1.2 acc hn)) (fun _ => Zg.bad))
theorem paramsG_w (N : NmT L) {PG : Nd → Prop} (hPG : ∀ y, PG y → XTo y) {G : Nat → Rs Nd} (hG : ∀ a, Zg (fun y _ => PG y) (G a)) {a : Nat} : Zg (fun x _ => XK 12 x ∧ ∀ y ∈ x.ks, ∃ z, y.ks = [z] ∧ PG z) (paramsG L G a) :=
  want_w.bind fun _ _ _ => (listP_w N hPG hG _ _ _ _ (fun y h => by cases h) nms_nil).bind fun l b h => Zg.ok ⟨n_params (fun y hy => (h.1 y hy).1) h.2, fun y hy => (h.1 y hy).2⟩
theorem fieldsG_w (N : NmT L) {T : Nat → Rs Nd} (hT : ∀ a, Zg (fun y _ => XT y) (T a)) : ∀ (n : Nat) (acc : List Nd) (ns : List (List UInt8)) (a : Nat), (∀ y ∈ acc, XK 34 y) → Nms acc ns → Zg (fun l _ => (∀ y ∈ l, XK 34 y) ∧ unlikeB l = true) (fieldsG L T n acc ns a)
  | 0, _, _, _, _, _ => Zg.bad
  | n + 1, acc, ns, a, h, hn => by
    rw [fieldsG]
    exact Zg.ite (fun _ => Zg.ok ⟨h, hn.unlike⟩) (fun _ => add_w.bind fun ns1 _ h0 => ((prop_w N).and prop_t).bind fun t _ h1 => (hT _).bind fun y _ h2 => want_w.bind fun _ _ _ => fieldsG_w N hT n _ _ _ (mem_snoc h (n_tprop h1.1.1.1 h1.1.1.2 h2)) (by rw [h0.2.2]; exact hn.snoc (by show t.data.toList = _; rw [h1.2]) h0.2.1))
theorem line_mem {x : Tok} (h : lineI x ≠ 0) : x.t.data.toList ∈ binaryL := by
  have e : x.t.toList = x.t.data.toList := Lib.toList_data _
  unfold lineI at h
  split at h
  · rw [e] at h
    generalize x.t.data.toList = t at *
    repeat' (split at h)
    all_goals first
      | (rename_i q; rcases q with rfl | rfl | rfl | rfl <;> decide)
      | (rename_i q; rcases q with rfl | rfl | rfl <;> decide)
      | (rename_i q; rcases q with rfl | rfl <;> decide)
      | (rename_i q; subst q; decide)
      | exact absurd rfl h
  · exact absurd rfl h
theorem binG_w (N : NmT L) {B : Nat → Nat → Rs Nd} (hB : ∀ m a, Zg (fun x _ => XE x) (B m a)) (m : Nat) (hm : 1 ≤ m) : ∀ (n : Nat) (nd : Nd) (a : Nat), XE nd → Zg (fun x _ => XE x) (binG L B m n nd a)
  | 0, _, _, _ => Zg.bad
  | n + 1, nd, a, h => by
    rw [binG]
    exact Zg.ite (fun _ => Zg.ok h) (fun q => (hB _ _).bind fun r a2 h2 => binG_w N hB m hm n _ _ (n_bin (line_mem (by omega)) (N.sz a) h h2))
theorem postG_w (N : NmT L) {E : Nat → Rs Nd} (hE : ∀ a, Zg (fun x _ => XE x) (E a)) : ∀ (n : Nat) (nd : Nd) (a : Nat), XE nd → Zg (fun x _ => XE x) (postG L E n nd a)
  | 0, _, _, _ => Zg.bad
  | n + 1, nd, a, h => by
    rw [postG]
    exact Zg.ite (fun _ => (prop_w N).bind fun _ _ h2 => postG_w N hE n _ _ (n_member h2.1.1 h2.1.2 h)) (fun _ => Zg.ite (fun _ => (hE _).bind fun _ _ h2 => want_w.bind fun _ _ _ => postG_w N hE n _ _ (n_index h h2)) (fun _ => Zg.ite (fun _ => (listE_w hE).bind fun _ _ h2 => postG_w N hE n _ _ (n_call h h2)) (fun _ => Zg.ok h)))
theorem arrayG_w : ∀ (n : Nat) (nd : Nd) (a : Nat), XT nd → Zg (fun x _ => XT x) (arrayG L n nd a)
  | 0, _, _, _ => Zg.bad
  | n + 1, nd, a, h => by
    rw [arrayG]
    exact Zg.ite (fun _ => want_w.bind fun _ _ _ => arrayG_w n _ _ (n_tarr h)) (fun _ => Zg.ok h)
theorem fitsL_mem {r : Int} : ∀ {ps : List Int} {l : List Nd}, (∀ p ∈ ps, p = r) → fitsL false ps r l = true → ∀ y ∈ l, fitsP false r y = true
  | _, [], _, _, y, hy => by cases hy
  | ps, z :: l, hp, h, y, hy => by
    rw [fitsL, Bool.and_eq_true] at h
    have e : ps.headD r = r := by
      cases ps with
      | nil => rfl
      | cons p ps => exact hp p (by simp)
    rw [e] at h
    rcases List.mem_cons.1 hy with rfl | hy
    · exact h.1
    · exact fitsL_mem (fun p hp' => hp p (List.mem_of_mem_tail hp')) h.2 y hy
/-- the parts of a union are types, and no unions. -/
theorem union_parts {x : Nd} (h : XT x) (hk : x.k = 32) : ∀ y ∈ x.ks, XT y ∧ y.k ≠ 32 := by
  intro y hy
  have hw := h.2.1
  have e : ruleK x.k = some ⟨0, 0, [105, 105], 105⟩ := by rw [hk]; rfl
  unfold wholeP at hw
  rw [e] at hw
  simp only [Bool.and_eq_true] at hw
  have hf := hw.1
  unfold folP at hf
  simp only [Bool.and_eq_true] at hf
  have := fitsL_mem (fun p hp => by simp at hp; exact hp) hf.2 y hy
  rw [fitsP_eq, if_neg (fun e => absurd e.1 (by decide)), Bool.and_eq_true] at this
  have hs := this.1
  simp [standsK] at hs
  exact ⟨⟨hs.1, this.2, Nd.tx_kid h.2.2 hy⟩, hs.2⟩
theorem unionG_w {E : Nat → Rs Nd} (hE : ∀ a, Zg (fun x _ => XT x) (E a)) : ∀ (n : Nat) (acc : List Nd) (a : Nat), (∀ y ∈ acc, XT y ∧ y.k ≠ 32) → Zg (fun l _ => ∀ y ∈ l, XT y ∧ y.k ≠ 32) (unionG L E n acc a)
  | 0, _, _, _ => Zg.bad
  | n + 1, acc, a, h => by
    rw [unionG]
    refine (hE a).bind fun x a1 h1 => ?_
    have h2 : ∀ y ∈ acc ++ (if x.k = 32 then x.ks else [x]), XT y ∧ y.k ≠ 32 := by
      intro y hy
      rcases List.mem_append.1 hy with hy | hy
      · exact h y hy
      · split at hy
        · rename_i hk; exact union_parts h1 hk y hy
        · rename_i hk
          obtain rfl := List.mem_singleton.1 hy
          exact ⟨h1, hk⟩
    exact Zg.ite (fun _ => unionG_w hE n _ _ h2) (fun _ => Zg.ok h2)
theorem oneOr_w {l : List Nd} (h : ∀ y ∈ l, XT y ∧ y.k ≠ 32) (hl : 1 ≤ l.length) : XT (oneOr l) := by
  unfold oneOr
  split
  · rename_i x; exact (h x (by simp)).1
  · rename_i hne
    refine n_union h ?_
    match l, hl with
    | [x], _ => exact absurd rfl (hne x)
    | _ :: _ :: _, _ => simp
theorem binG_cong (L : List Tok) (B B' : Nat → Nat → Rs Nd) (m : Nat) (hm : 1 ≤ m) (h : ∀ m' a', 1 ≤ m' → B' m' a' = B m' a') : ∀ (n : Nat) (nd : Nd) (a : Nat), binG L B' m n nd a = binG L B m n nd a
  | 0, _, _ => rfl
  | n + 1, nd, a => by
    rw [binG, binG]
    split
    · rfl
    · rw [h _ _ (by omega)]
      congr 1
      funext r a2
      exact binG_cong L B B' m hm h n _ _
structure FmA (L : List Tok) (f : Nat) : Prop where
  expr : ∀ a o, Zg (fun x _ => XE x) (exprF L f a o)
  assign : ∀ nd a o, XE nd → Zg (fun x _ => XE x) (assignF L f nd a o)
  cond : ∀ a o, Zg (fun x _ => XE x) (condF L f a o)
  bin : ∀ m a o, 1 ≤ m → Zg (fun x _ => XE x) (binF L f m a o)
  unary : ∀ a o, Zg (fun x _ => XE x) (unaryF L f a o)
  post : ∀ a o, Zg (fun x _ => XE x) (postF L f a o)
  prim : ∀ a o, Zg (fun x _ => XE x) (primF L f a o)
  wprim : ∀ a o, Zg (fun x _ => XE x) (wprimF L f a o)
  sprim : ∀ a o, Zg (fun x _ => XE x) (sprimF L f a o)
  prop : ∀ a o, Zg (fun x _ => XK 10 x) (propF L f a o)
  arrow : ∀ a o, Zg (fun x _ => XE x) (arrowF L f a o)
  abody : ∀ a o, Zg (fun x _ => XK 52 x) (abodyF L f a o)
  typeOr : ∀ a o, Zg (fun x _ => XTo x) (typeOrF L f a o)
  typing : ∀ a o, Zg (fun x _ => XT x) (typingF L f a o)
  type : ∀ a o, Zg (fun x _ => XT x) (typeF L f a o)
  ptype : ∀ a o, Zg (fun x _ => XT x) (ptypeF L f a o)
  rtype : ∀ a o, Zg (fun x _ => XT x) (rtypeF L f a o)
  objt : ∀ a o, Zg (fun x _ => XT x) (objtF L f a o)
  ftype : ∀ a o, Zg (fun x _ => XT x) (ftypeF L f a o)
  blk : ∀ a o, Zg (fun x _ => XK 52 x) (blkF L f a o)
  stmt : ∀ a o, Zg (fun x _ => XS x) (stmtF L f a o)
  lets : ∀ q a o, q = 0 ∨ q = 1 → Zg (fun x _ => XS x) (letF L f q a o)
  condi : ∀ a o, Zg (fun x _ => XE x) (condiF L f a o)
  els : ∀ a o, Zg (fun x _ => XBo x) (elseF L f a o)
  exprOr : ∀ a o, Zg (fun x _ => XEo x) (exprOrF L f a o)
  any : ∀ a o, Zg (fun x _ => XS x) (anyF L f a o)
theorem sign_t {a : Nat} {s : ByteArray} (h : isS L a s = true) : (tokA L a).t.data.toList = s.data.toList := by
  unfold isS at h
  simp only [Bool.and_eq_true, beq_iff_eq] at h
  rw [← Lib.toList_data, ← Lib.toList_data]
  exact h.2
theorem word_t {a : Nat} {s : ByteArray} (h : isWd L a s = true) : (tokA L a).t.data.toList = s.data.toList := by
  unfold isWd at h
  simp only [Bool.and_eq_true, beq_iff_eq] at h
  rw [← Lib.toList_data, ← Lib.toList_data]
  exact h.2
theorem type_say {a : Nat} (N : NmT L) (h : isN L a = true ∨ isWd L a wNull = true ∨ isWd L a wUndef = true) : saysT false 5 (tokA L a).t = true := by
  show (idT false (tokA L a).t || ((tokA L a).t.toList == [110, 117, 108, 108]) || ((tokA L a).t.toList == [117, 110, 100, 101, 102, 105, 110, 101, 100])) = true
  rcases h with h | h | h
  · rw [N.id a (by simpa [isN] using h)]; rfl
  · rw [Lib.toList_data, word_t h]; simp [wNull]
  · rw [Lib.toList_data, word_t h]; simp [wUndef]
theorem fm_all (N : NmT L) : ∀ f, FmA L f := by
  intro f
  induction f with
  | zero => constructor <;> (intros; simp [exprF, assignF, condF, binF, unaryF, postF, primF, wprimF, sprimF, propF, arrowF, abodyF, typeOrF, typingF, typeF, ptypeF, rtypeF, objtF, ftypeF, blkF, stmtF, letF, condiF, elseF, exprOrF, anyF]; exact Zg.bad)
  | succ f ih =>
    have hPo : ∀ a o, Zg (fun x _ => XK 12 x ∧ ∀ y ∈ x.ks, ∃ z, y.ks = [z] ∧ XTo z) (paramsG L (fun a' => typeOrF L f a' o) a) := fun a o => paramsG_w N (fun y h => h) (fun a' => ih.typeOr a' o)
    constructor
    · intro a o; rw [exprF]
      exact begin_w.bind fun _ _ _ => (ih.cond _ _).bind fun n a1 hn => Zg.ite (fun _ => ih.assign _ _ _ hn) (fun _ => Zg.ok hn)
    · intro nd a o h; rw [assignF]
      exact Zg.ite (fun q => (ih.expr _ _).bind fun v a2 hv => Zg.ok (n_assign q h hv)) (fun _ => Zg.bad)
    · intro a o; rw [condF]
      exact (ih.bin _ _ _ (by omega)).bind fun n a1 hn => Zg.ite (fun _ => (ih.expr _ _).bind fun t _ ht => want_w.bind fun _ _ _ => (ih.expr _ _).bind fun e _ he => Zg.ok (n_cond hn ht he)) (fun _ => Zg.ok hn)
    · intro m a o hm; rw [binF]
      refine (ih.unary _ _).bind fun n a1 hn => ?_
      -- a line is asked for only if there is one: at line 0 nothing is read
      exact fun x b e => binG_w N (B := fun m' a' => if 1 ≤ m' then binF L f m' a' o else .bad a' 60) (fun m' a' => Zg.ite (fun q => ih.bin _ _ _ q) (fun _ => Zg.bad)) m hm _ n a1 hn x b (by
        rw [← e]
        exact binG_cong L _ _ m hm (fun m' a' q => by rw [if_pos q]) _ _ _)
    · intro a o; rw [unaryF]
      exact Zg.ite (fun q => begin_w.bind fun _ _ _ => (ih.unary _ _).bind fun n _ hn => Zg.ok (n_un (by rcases q with q | q | q <;> first | (rw [sign_t q]; decide) | (rw [word_t q]; decide)) (N.sz _) hn)) (fun _ => ih.post _ _)
    · intro a o; rw [postF]
      exact (ih.prim _ _).bind fun n a1 hn => postG_w N (fun a' => ih.expr a' o) _ _ _ hn
    · intro a o; rw [primF]
      exact Zg.ite (fun q => Zg.ok (n_num N q)) (fun _ => Zg.ite (fun q => Zg.ok (n_text N q)) (fun _ => Zg.ite (fun q => Zg.ok (n_name (N.id _ q) (N.sz _))) (fun _ => Zg.ite (fun _ => ih.wprim _ _) (fun _ => ih.sprim _ _))))
    · intro a o; rw [wprimF]
      exact Zg.ite (fun _ => Zg.ok (n_plain (.inl ⟨rfl, .inr rfl⟩))) (fun _ => Zg.ite (fun _ => Zg.ok (n_plain (.inl ⟨rfl, .inl rfl⟩))) (fun _ => Zg.ite (fun _ => Zg.ok (n_plain (.inr ⟨.inl rfl, rfl⟩))) (fun _ => Zg.ite (fun _ => Zg.ok (n_plain (.inr ⟨.inr (.inl rfl), rfl⟩))) (fun _ => Zg.ite (fun _ => Zg.ok (n_plain (.inr ⟨.inr (.inr rfl), rfl⟩))) (fun _ => Zg.ite (fun _ => (id_w N).bind fun t _ ht => want_w.bind fun _ _ _ => (listE_w (fun a' => ih.expr a' o)).bind fun l _ hl => Zg.ok (n_new ht.1 ht.2 hl)) (fun _ => Zg.ite (fun _ => (hPo _ _).bind fun p _ hp => (ih.typeOr _ _).bind fun t _ ht => (ih.blk _ _).bind fun b _ hb => Zg.ok (n_func hp.1 ht hb)) (fun _ => Zg.bad)))))))
    · intro a o; rw [sprimF]
      exact Zg.ite (fun _ => (listE_w (fun a' => ih.expr a' o)).bind fun l _ hl => Zg.ok (n_arr hl)) (fun _ => Zg.ite (fun _ => (listE_w (fun a' => ih.prop a' o)).bind fun l _ hl => Zg.ok (n_obj hl)) (fun _ => Zg.ite (fun _ => Zg.ite (fun _ => ih.arrow _ _) (fun _ => (ih.expr _ _).bind fun n _ hn => want_w.bind fun _ _ _ => Zg.ok hn)) (fun _ => Zg.bad)))
    · intro a o; rw [propF]
      exact (prop_w N).bind fun t a1 ht => Zg.ite (fun _ => (ih.expr _ _).bind fun e _ he => Zg.ok (n_prop ht.1.1 ht.1.2 he)) (fun _ => Zg.ite (fun q => Zg.ok (n_prop ht.1.1 ht.1.2 (n_name (ht.2 q) ht.1.2))) (fun _ => Zg.bad))
    · intro a o; rw [arrowF]
      exact (hPo _ _).bind fun p _ hp => want_w.bind fun _ _ _ => (ih.abody _ _).bind fun b _ hb => Zg.ok (n_func hp.1 (.inr n_none) hb)
    · intro a o; rw [abodyF]
      exact Zg.ite (fun _ => ih.blk _ _) (fun _ => (ih.expr _ _).bind fun e _ he => Zg.ok (n_block (fun y hy => by obtain rfl := List.mem_singleton.1 hy; exact n_ret (.inl he))))
    · intro a o; rw [typeOrF]
      exact Zg.ite (fun _ => (ih.typing _ _).weak (fun _ _ h => .inl h)) (fun _ => Zg.ok (.inr n_none))
    · intro a o; rw [typingF]
      exact want_w.bind fun _ _ _ => ih.type _ _
    · intro a o; rw [typeF]
      refine begin_w.bind fun _ _ _ => ?_
      intro x b e
      cases hl : unionG L (fun a' => ptypeF L f a' (o + 1)) (L.length + 1 - a) [] a with
      | bad p er => rw [hl] at e; cases e
      | ok l a1 =>
        rw [hl] at e
        cases e
        have h1 := unionG_len (fun a => (mono_all L f).ptype' a (o + 1)) (fun a => (un_all L f).ptype' a (o + 1)) _ _ _ _ _ hl
        exact oneOr_w (unionG_w (fun a' => ih.ptype a' (o + 1)) _ _ _ (fun y h => by cases h) l _ hl) (by simpa using h1.2)
    · intro a o; rw [ptypeF]
      exact (ih.rtype _ _).bind fun n _ hn => arrayG_w _ _ _ hn
    · intro a o; rw [rtypeF]
      exact Zg.ite (fun q => Zg.ok (n_tname (type_say N q) (N.sz _))) (fun _ => Zg.ite (fun _ => ih.objt _ _) (fun _ => Zg.ite (fun _ => Zg.ite (fun _ => ih.ftype _ _) (fun _ => (ih.type _ _).bind fun n _ hn => want_w.bind fun _ _ _ => Zg.ok hn)) (fun _ => Zg.bad)))
    · intro a o; rw [objtF]
      exact (fieldsG_w N (fun a' => ih.typing a' o) _ _ _ _ (fun y h => by cases h) nms_nil).bind fun l _ hl => Zg.ok (n_tobj hl.1 hl.2)
    · intro a o; rw [ftypeF]
      exact (paramsG_w N (PG := XT) (fun y h => .inl h) (fun a' => ih.typing a' o)).bind fun p _ hp => want_w.bind fun _ _ _ => (ih.type _ _).bind fun t _ ht => Zg.ok (n_tfunc hp.1 (fun y hy => by
        obtain ⟨z, hz, hz2⟩ := hp.2 y hy
        unfold hk0 hkL
        rw [hz]
        intro e
        have := hz2.1
        simp only at e
        rw [e] at this
        exact absurd this (by decide)) ht)
    · intro a o; rw [blkF]
      exact blockG_w (fun a' => ih.stmt a' o)
    · intro a o; rw [stmtF]
      exact begin_w.bind fun _ _ _ => ih.any _ _
    · intro q a o hq; rw [letF]
      exact (id_w N).bind fun t _ ht => (ih.typeOr _ _).bind fun y _ hy => want_w.bind fun _ _ _ => (ih.expr _ _).bind fun e _ he => want_w.bind fun _ _ _ => Zg.ok (n_let ht.1 ht.2 hq hy he)
    · intro a o; rw [condiF]
      exact want_w.bind fun _ _ _ => (ih.expr _ _).bind fun e _ he => want_w.bind fun _ _ _ => Zg.ok he
    · intro a o; rw [elseF]
      exact Zg.ite (fun _ => Zg.ite (fun _ => (ih.stmt _ _).bind fun s _ hs => Zg.ok (.inl (n_block (fun y hy => by obtain rfl := List.mem_singleton.1 hy; exact hs)))) (fun _ => (ih.blk _ _).weak (fun _ _ h => .inl h))) (fun _ => Zg.ok (.inr n_none))
    · intro a o; rw [exprOrF]
      exact Zg.ite (fun _ => Zg.ok (.inr n_none)) (fun _ => (ih.expr _ _).weak (fun _ _ h => .inl h))
    · intro a o; rw [anyF]
      exact Zg.ite (fun _ => ih.lets _ _ _ (.inl rfl)) (fun _ => Zg.ite (fun _ => ih.lets _ _ _ (.inr rfl)) (fun _ => Zg.ite (fun _ => (id_w N).bind fun t _ ht => (hPo _ _).bind fun p _ hp => (ih.typeOr _ _).bind fun y _ hy => (ih.blk _ _).bind fun b _ hb => Zg.ok (n_fn ht.1 ht.2 hp.1 hy hb)) (fun _ => Zg.ite (fun _ => (ih.condi _ _).bind fun c _ hc => (ih.blk _ _).bind fun b _ hb => (ih.els _ _).bind fun e _ he => Zg.ok (n_if hc hb he)) (fun _ => Zg.ite (fun _ => (ih.condi _ _).bind fun c _ hc => (ih.blk _ _).bind fun b _ hb => Zg.ok (n_while hc hb)) (fun _ => Zg.ite (fun _ => (ih.exprOr _ _).bind fun e _ he => want_w.bind fun _ _ _ => Zg.ok (n_ret he)) (fun _ => Zg.ite (fun _ => (ih.expr _ _).bind fun e _ he => want_w.bind fun _ _ _ => Zg.ok (n_one (.inr rfl) he)) (fun _ => Zg.ite (fun _ => (ih.blk _ _).weak (fun _ _ h => blk_s h)) (fun _ => (ih.expr _ _).bind fun e _ he => want_w.bind fun _ _ _ => Zg.ok (n_one (.inl rfl) he)))))))))
end Go.Proofs.YtmfgcaffdkakhaaGreat
namespace Go.Proofs.YtmfgcaffdkakhaaGreat
open Go.RowKit
set_option linter.unusedVariables false
set_option linter.unusedSimpArgs false
set_option maxRecDepth 100000

theorem scan_app {l : Bs} (hl : l ≠ []) (hs : strayL l = false) (q : Bs) : scan (l.take (decL l).2 ++ q) = ((decL l).1, l.take (decL l).2) :: scan q := by
  have hd := dec_local hl hs q
  have hw := decL_le l hl
  have hp := (decL_width l).1
  have hne : l.take (decL l).2 ++ q ≠ [] := by simp [take_ne hl (show 0 < (decL l).2 by omega)]
  have hlen : (l.take (decL l).2).length = (decL l).2 := by rw [List.length_take]; omega
  rw [scan_cons _ hne, hd, drop_cut hw]
  congr 2
  rw [List.take_append_of_le_length (by omega), List.take_of_length_le (by omega)]
theorem low_dec {l : Bs} (h : atL l 0 < 128) : (decL l).2 = 1 ∧ (decL l).1 = atL l 0 ∧ strayL l = false := by
  have e := dec_low1 h
  refine ⟨by rw [e], by rw [e], ?_⟩
  unfold strayL
  rw [e]
  simp
  omega
theorem beg_dec {l : Bs} {sc : Bool} (h : begL l sc ≠ 0) : l ≠ [] ∧ begL l sc = (decL l).2 ∧ okR false true ((decL l).1 : Int) = true ∧ strayL l = false := by
  have hl : l ≠ [] := fun e => h (by rw [e]; rfl)
  unfold begL at h ⊢
  rw [if_neg hl] at h ⊢
  split at h
  · rename_i hc
    have hlow : atL l 0 < 128 := by rcases hc with hc | ⟨_, hc⟩ <;> omega
    obtain ⟨e1, e2, e3⟩ := low_dec hlow
    refine ⟨hl, by rw [if_pos hc, e1], ?_, e3⟩
    rw [e2]
    unfold okR
    rcases hc with hc | ⟨_, hc⟩ <;> rw [hc] <;> decide
  · rename_i hc
    split at h
    · rename_i hk
      refine ⟨hl, by rw [if_neg hc, if_pos hk], ?_, hk.1⟩
      unfold okR
      rw [hk.2]
      rfl
    · exact absurd rfl h
theorem ok_rest {r : Int} (h : okR false true r = true) : okR false false r = true := by
  unfold okR at *
  revert h
  cases letterB r <;> cases (r == 95) <;> cases (r == 36) <;> cases digitB r <;> decide
theorem on_dec {l : Bs} {sc : Bool} (h : onL l sc ≠ 0) : l ≠ [] ∧ onL l sc = (decL l).2 ∧ okR false false ((decL l).1 : Int) = true ∧ strayL l = false := by
  by_cases hb : begL l sc = 0
  · unfold onL at h ⊢
    rw [if_neg (by simpa using hb)] at h ⊢
    split at h
    · rename_i hd
      have hr : 48 ≤ atL l 0 ∧ atL l 0 ≤ 57 := by have := hd.2; unfold digC at this; simpa using this
      obtain ⟨e1, e2, e3⟩ := low_dec (l := l) (by omega)
      refine ⟨hd.1, by rw [if_pos hd, e1], ?_, e3⟩
      rw [e2]
      have : digitB ((atL l 0 : Nat) : Int) = true := by unfold digitB; simp; omega
      unfold okR
      rw [this]
      simp
    · exact absurd rfl h
  · obtain ⟨h1, h2, h3, h4⟩ := beg_dec hb
    refine ⟨h1, ?_, ok_rest h3, h4⟩
    unfold onL
    rw [if_pos hb, h2]
theorem tail_rest (sc : Bool) : ∀ (m : Nat) (l : Bs), l.length ≤ m → ((scan (l.take (tailL l sc))).all fun x => okR false false (x.1 : Int)) = true := by
  intro m
  induction m with
  | zero =>
    intro l hm
    obtain rfl : l = [] := List.length_eq_zero_iff.1 (by omega)
    simp [scan_nil]
  | succ m ih =>
    intro l hm
    rw [tailL_eq]
    by_cases h : onL l sc = 0
    · rw [if_pos h]
      simp [scan_nil]
    · rw [if_neg h]
      obtain ⟨h1, h2, h3, h4⟩ := on_dec h
      have hp := (decL_width l).1
      have hlp : 0 < l.length := List.length_pos_iff.2 h1
      rw [List.take_add, h2, scan_app h1 h4, List.all_cons, h3, ih (l.drop (decL l).2) (by simp; omega)]
      rfl
theorem name_prop {l : Bs} {sc : Bool} (h : 0 < nameL l sc) : propT false (l.take (nameL l sc)) = true := by
  unfold nameL at h ⊢
  split at h
  · omega
  · rename_i hb
    rw [if_neg hb]
    obtain ⟨h1, h2, h3, h4⟩ := beg_dec hb
    unfold propT
    rw [List.take_add, h2, scan_app h1 h4]
    show (okR false true ((decL l).1 : Int) && _) = true
    rw [h3, tail_rest sc _ _ (Nat.le_refl _)]
    rfl
/-- what a token may be. -/
def NmK (t : Tk) : Prop := (t.1 = 1 → propT false t.2.1 = true ∧ t.2.1 ∉ wordsF) ∧ (t.1 = 2 → propT false t.2.1 = true) ∧ (t.1 = 3 → 0 ≤ t.2.2 ∧ t.2.2 ≤ 9007199254740991) ∧ (t.1 = 4 → validL t.2.1 = true)
theorem next_nm {l : Bs} {sc : Bool} {x : Tk × Nat} (h : nextL l sc = .ok x) : NmK x.1 := by
  unfold nextL at h
  split at h
  · rename_i h1
    cases h
    have hp := name_prop h1
    by_cases hw : wordB (l.take (nameL l sc)) = true
    · rw [if_pos hw]
      exact ⟨fun e => by simp at e, fun _ => hp, fun e => by simp at e, fun e => by simp at e⟩
    · rw [if_neg hw]
      refine ⟨fun _ => ⟨hp, fun hm => hw ?_⟩, fun e => by simp at e, fun e => by simp at e, fun e => by simp at e⟩
      have e : wordsF = wordsL := rfl
      rw [e] at hm
      unfold wordB
      exact List.contains_iff_mem.2 hm
  · split at h
    · unfold numbL at h
      split at h
      · cases h
      · split at h
        · cases h
        · rename_i hn
          cases h
          exact ⟨fun e => by simp at e, fun e => by simp at e, fun _ => ⟨by simp, by simp only; omega⟩, fun e => by simp at e⟩
    · split at h
      · unfold unqNx at h
        split at h
        · rename_i y hu
          cases h
          exact ⟨fun e => by simp at e, fun e => by simp at e, fun e => by simp at e, fun _ => said_valid (n := y.2) hu⟩
        · cases h
      · unfold signNx at h
        split at h
        · cases h
          exact ⟨fun e => by simp at e, fun e => by simp at e, fun e => by simp at e, fun e => by simp at e⟩
        · cases h
theorem lex_nm (sc : Bool) : ∀ (m a : Nat) (l : Bs) (ts : List (Tk × Nat)), l.length ≤ m → lexL a l sc = .ok ts → ∀ x ∈ ts, NmK x.1 := by
  intro m
  induction m with
  | zero =>
    intro a l ts hm h
    obtain ⟨h1, h2⟩ := lex_step h
    rcases h2 with ⟨h2, rfl⟩ | ⟨y, ts', h2, _⟩
    · intro x hx; cases hx
    · exact absurd (List.drop_eq_nil_of_le (by omega)) h2
  | succ m ih =>
    intro a l ts hm h
    obtain ⟨h1, h2⟩ := lex_step h
    rcases h2 with ⟨h2, rfl⟩ | ⟨y, ts', h2, h3, h4, rfl⟩
    · intro x hx; cases hx
    · have hlen := next_len h2 h3
      simp only [List.length_drop] at hlen
      intro x hx
      rcases List.mem_cons.1 hx with rfl | hx
      · have q : NmK y.1 := next_nm h3
        exact q
      · exact ih _ _ _ (by simp; omega) h4 x hx
theorem tok_or (L : List Tok) (a : Nat) : tokA L a = endT ∨ tokA L a ∈ L := by
  unfold tokA
  by_cases h : a < L.length
  · right
    rw [List.getElem?_eq_getElem h]
    exact List.getElem_mem h
  · left
    rw [List.getElem?_eq_none (by omega)]
    rfl
theorem src_nm {s : Bs} (hz : ∀ ts, lexL 0 s true = .ok ts → ∀ x ∈ ts, x.1.2.1.length ≤ 4194304) : NmT (srcT s) := by
  have key : ∀ a, tokA (srcT s) a = endT ∨ ∃ x : Tk × Nat, tokA (srcT s) a = tkT x ∧ NmK x.1 ∧ x.1.2.1.length ≤ 4194304 := by
    intro a
    rcases tok_or (srcT s) a with h | h
    · exact .inl h
    · right
      cases hl : lexL 0 s true with
      | error e =>
        have e0 : srcT s = [] := by unfold srcT; rw [hl]
        rw [e0] at h
        cases h
      | ok ts =>
        have e0 : srcT s = ts.map tkT := by unfold srcT; rw [hl]
        rw [e0] at h ⊢
        obtain ⟨x, hx, e⟩ := List.mem_map.1 h
        exact ⟨x, e.symm, lex_nm true _ 0 s ts (Nat.le_refl _) hl x hx, hz ts hl x hx⟩
  have ed : ∀ b : Bs, (⟨b.toArray⟩ : ByteArray).data.toList = b := fun b => rfl
  refine ⟨fun a h => ?_, fun a h => ?_, fun a h => ?_, fun a h => ?_, fun a => ?_⟩
  · rcases key a with e | ⟨x, e, hn, _⟩
    · rw [e] at h; cases h
    · rw [e] at h ⊢
      have := hn.1 h
      show (propT false (⟨x.1.2.1.toArray⟩ : ByteArray).data.toList && !isW ⟨x.1.2.1.toArray⟩) = true
      unfold isW
      rw [ed, this.1, decide_eq_false this.2]
      rfl
  · rcases key a with e | ⟨x, e, hn, _⟩
    · rw [e] at h; cases h
    · rw [e] at h ⊢
      exact hn.2.1 h
  · rcases key a with e | ⟨x, e, hn, _⟩
    · rw [e] at h; cases h
    · rw [e] at h ⊢
      exact hn.2.2.1 h
  · rcases key a with e | ⟨x, e, hn, _⟩
    · rw [e] at h; cases h
    · rw [e] at h ⊢
      exact hn.2.2.2 h
  · rcases key a with e | ⟨x, e, hn, hs⟩
    · rw [e]; decide
    · rw [e]
      show x.1.2.1.toArray.size ≤ _
      simpa using hs
end Go.Proofs.YtmfgcaffdkakhaaGreat
namespace Go.Proofs.YtmfgcaffdkakhaaGreat
open Go.RowKit
set_option linter.unusedVariables false
set_option linter.unusedSimpArgs false
set_option maxRecDepth 100000

/-- which form that is: 1, 2, 3. -/
def XF (f : Int) (x : Nd) : Prop := formK x.k = f ∧ Gx x
theorem XF.bools {f : Int} {x : Nd} (h : XF f x) : exB x = (f == 1) ∧ tyB x = (f == 2) ∧ stB x = (f == 3) := by
  unfold exB tyB stB
  rw [h.1, h.2.1]
  exact ⟨by simp, by simp, by simp⟩
set_option maxHeartbeats 4000000 in
theorem formW {f : Int} (hf : f = 1 ∨ f = 2 ∨ f = 3) {x : Nd} (h : XF f x) (zx : x.size ≤ 4194304) (w : World) (S : Nat → Prop) (a : Option Addr) (c : Nat) (hx : LAt w S (.slice a x.ks.length c) x.ks) :
    Calls Tryz.prog 9 #[nv x.k x.t x.n a x.ks.length c] w fun e w' => e = .returned (.int .i64 f) ∧ Below w.heap.size w w' := by
  obtain ⟨hE, hT, hS⟩ := forms_all 4194304 (Nat.le_refl _) x zx h.2.2
  obtain ⟨e1, e2, e3⟩ := h.bools
  have bel_n : ∀ o, Below w.heap.size w (w.alloc o) := fun o => (Below.refl _ _).alloc (Nat.le_refl _) o
  have CE : Hid (∀ W, Below w.heap.size w W → Calls Tryz.prog 15 #[nv x.k x.t x.n a x.ks.length c] W fun e w' => e = .returned (.bool (f == 1)) ∧ Below W.heap.size W w') := fun W b => e1 ▸ hE W S a c (hx.bel b)
  have CT : Hid (∀ W, Below w.heap.size w W → Calls Tryz.prog 16 #[nv x.k x.t x.n a x.ks.length c] W fun e w' => e = .returned (.bool (f == 2)) ∧ Below W.heap.size W w') := fun W b => e2 ▸ hT W S a c (hx.bel b)
  have CS : Hid (∀ W, Below w.heap.size w W → Calls Tryz.prog 17 #[nv x.k x.t x.n a x.ks.length c] W fun e w' => e = .returned (.bool (f == 3)) ∧ Below W.heap.size W w') := fun W b => e3 ▸ hS W S a c (hx.bel b)
  clear hE hT hS e1 e2 e3 h
  unfold nv at *
  have M0 : Hid (∀ W, Below (w.alloc (Obj.cells #[Value.int IntKind.i64 x.k, Value.string x.t, Value.int IntKind.i64 x.n, Value.slice a x.ks.length c] 27)).heap.size (w.alloc (Obj.cells #[Value.int IntKind.i64 x.k, Value.string x.t, Value.int IntKind.i64 x.n, Value.slice a x.ks.length c] 27)) W → W.heap[w.heap.size]? = some (.cells #[Value.int IntKind.i64 x.k, Value.string x.t, Value.int IntKind.i64 x.n, Value.slice a x.ks.length c] 27 (0, 0))) := fun W b => (b.block _ (by simp)).trans (heap_alloc_new w _)
  have kb : Hid (∀ W, Below (w.alloc (Obj.cells #[Value.int IntKind.i64 x.k, Value.string x.t, Value.int IntKind.i64 x.n, Value.slice a x.ks.length c] 27)).heap.size (w.alloc (Obj.cells #[Value.int IntKind.i64 x.k, Value.string x.t, Value.int IntKind.i64 x.n, Value.slice a x.ks.length c] 27)) W → Below w.heap.size w W) := fun W b => (bel_n _).trans (b.mono (by simp))
  clear hx
  go_enter Tryz.func9, Tryz.ntmps9
  rcases hf with rfl | rfl | rfl
  · skip
    go_wp2_with (go_at_call 15; refine (CE.out _ (bel_n _)).mono ?_; rintro e W1 ⟨rfl, b1⟩; have B1 := b1; obtain ⟨⟨_, _, _, _⟩, _, _, _, _⟩ := t4 (M0.out _ B1))
    go_ret
    exact ⟨rfl, kb.out _ B1⟩
  · go_wp2_with (first
      | (go_at_call 15; refine (CE.out _ (bel_n _)).mono ?_; rintro e W1 ⟨rfl, b1⟩; have B1 := b1; obtain ⟨⟨_, _, _, _⟩, _, _, _, _⟩ := t4 (M0.out _ B1))
      | (go_at_call 16; refine (CT.out _ (kb.out _ B1)).mono ?_; rintro e W2 ⟨rfl, b2⟩; have B2 := B1.trans (b2.mono B1.size); obtain ⟨⟨_, _, _, _⟩, _, _, _, _⟩ := t4 (M0.out _ B2)))
    go_ret
    exact ⟨rfl, kb.out _ B2⟩
  · go_wp2_with (first
      | (go_at_call 15; refine (CE.out _ (bel_n _)).mono ?_; rintro e W1 ⟨rfl, b1⟩; have B1 := b1; obtain ⟨⟨_, _, _, _⟩, _, _, _, _⟩ := t4 (M0.out _ B1))
      | (go_at_call 16; refine (CT.out _ (kb.out _ B1)).mono ?_; rintro e W2 ⟨rfl, b2⟩; have B2 := B1.trans (b2.mono B1.size); obtain ⟨⟨_, _, _, _⟩, _, _, _, _⟩ := t4 (M0.out _ B2))
      | (go_at_call 17; refine (CS.out _ (kb.out _ B2)).mono ?_; rintro e W3 ⟨rfl, b3⟩; have B3 := B2.trans (b3.mono B2.size); obtain ⟨⟨_, _, _, _⟩, _, _, _, _⟩ := t4 (M0.out _ B3)))
    go_ret
    exact ⟨rfl, kb.out _ B3⟩
end Go.Proofs.YtmfgcaffdkakhaaGreat
namespace Go.Proofs.YtmfgcaffdkakhaaGreat
open Go.RowKit
set_option linter.unusedVariables false
set_option linter.unusedSimpArgs false
set_option maxRecDepth 100000

theorem lex_bounds3 (s : ByteArray) (hs : s.size ≤ 1048576) : ∀ ts, lexL 0 s.data.toList true = .ok ts → ts.length ≤ 4194304 ∧ ∀ x ∈ ts, x.1.2.1.length ≤ 4194304 := by
  intro ts h
  have e : s.data.toList.length = s.size := rfl
  obtain ⟨h1, h2⟩ := lex_said _ 0 _ true ts (Nat.le_refl _) h
  refine ⟨by omega, fun x hx => ?_⟩
  have := (h2 x.1 (List.mem_map.2 ⟨x, hx, rfl⟩)).1
  omega
theorem tok_count3 (sc : Bool) : ∀ (m a : Nat) (l : Bs) (ts : List (Tk × Nat)), l.length ≤ m → lexL a l sc = .ok ts → ts.length ≤ l.length := by
  intro m
  induction m with
  | zero =>
    intro a l ts hm h
    obtain ⟨h1, h2⟩ := lex_step h
    rcases h2 with ⟨h2, rfl⟩ | ⟨y, ts', h2, _⟩
    · simp
    · exact absurd (List.drop_eq_nil_of_le (by omega)) h2
  | succ m ih =>
    intro a l ts hm h
    obtain ⟨h1, h2⟩ := lex_step h
    rcases h2 with ⟨h2, rfl⟩ | ⟨x, ts', h2, h3, h4, rfl⟩
    · simp
    · have hlen := next_len h2 h3
      simp only [List.length_drop] at hlen
      have := ih _ _ _ (by simp; omega) h4
      simp only [List.length_drop, List.length_cons] at this ⊢
      omega
theorem src_count3 (s : Bs) : (srcT s).length ≤ s.length := by
  unfold srcT
  split
  · rename_i ts h
    simpa using tok_count3 true s.length 0 s ts (Nat.le_refl _) h
  · simp
/-- what is known of an answer. -/
structure Kn (L : List Tok) (m : Nat) (f : Int) (r : Fc) : Prop where
  z : r.x.size ≤ 4194304
  ok : r.e = 0 → XF f r.x ∧ m < r.p ∧ r.p ≤ L.length
  lo : m ≤ r.p
  hi : r.p ≤ L.length
theorem kn_of {L : List Tok} {m : Nat} {f : Int} {r : Rs Nd} (h1 : Zg (fun x b => x.size + 2 * m ≤ 2 * b) r) (h2 : Bd L r) (h3 : Lw m r) (h4 : Gd L (m + 1) r) (h5 : Zg (fun x _ => XF f x) r) (hL : L.length ≤ 2000000) : Kn L m f (faceR r) := by
  cases r with
  | ok x b =>
    have q1 := h1 x b rfl
    have q2 : b ≤ L.length := h2
    have q4 := (h4.2 x b rfl).1
    exact ⟨by show x.size ≤ _; omega, fun _ => ⟨h5 x b rfl, by show m < b; omega, q2⟩, by show m ≤ b; omega, q2⟩
  | bad p e =>
    have q3 : m ≤ p := h3
    exact ⟨by show zeroNd.size ≤ _; decide, fun he => absurd (show Rs.bad p e = .bad p 0 by rw [show e = 0 from he]) (h4.1 p), q3, h2.1⟩
theorem kn_all {L : List Tok} (N : NmT L) (hL : L.length ≤ 2000000) {m : Nat} (hm : m ≤ L.length) : Kn L m 1 (faceR (exprF L (fuelL L) m 0)) ∧ Kn L m 2 (faceR (typeF L (fuelL L) m 0)) ∧ Kn L m 3 (faceR (stmtF L (fuelL L) m 0)) :=
  ⟨kn_of ((sz_all L _).expr' m 0) ((bd_all L _).expr' m 0 hm) ((lw_all L m _).expr' m 0 (Nat.le_refl _)) ((gd_all L _).expr' m 0 hm (fuel_ok L m 0 20 (by omega))) ((fm_all N _).expr m 0) hL,
   kn_of ((sz_all L _).type' m 0) ((bd_all L _).type' m 0 hm) ((lw_all L m _).type' m 0 (Nat.le_refl _)) ((gd_all L _).type' m 0 hm (fuel_ok L m 0 20 (by omega))) ((fm_all N _).type m 0) hL,
   kn_of ((sz_all L _).stmt' m 0) ((bd_all L _).stmt' m 0 hm) ((lw_all L m _).stmt' m 0 (Nat.le_refl _)) ((gd_all L _).stmt' m 0 hm (fuel_ok L m 0 20 (by omega))) ((fm_all N _).stmt m 0) hL⟩
theorem read_at (L : List Tok) (F : Nat → Nat → Rs Nd) {m : Nat} (hm : m ≤ L.length) : readP L F (m : Int) = faceR (F m 0) := by
  unfold readP
  rw [if_neg (by omega), if_neg (by omega)]
  rfl
set_option maxHeartbeats 8000000 in
theorem walkForms (s : ByteArray) (i : Int) (w : World) (hs : s.size ≤ 1048576) (hi1 : -9223372036854775808 ≤ i) (hi2 : i ≤ 9223372036854775807) :
    Calls Tryz.prog 3 #[.string s, .int .i64 i] w fun e w' => e = .returned (.bool true) ∧ Below w.heap.size w w' := by
  have T1 := fun W => tokens_any s W (by omega) (lex_bounds3 s hs)
  have N := src_nm (s := s.data.toList) (fun ts h => (lex_bounds3 s hs ts h).2)
  have hc := src_count3 s.data.toList
  have el : s.data.toList.length = s.size := rfl
  have KN := fun m (hm : m ≤ (srcT s.data.toList).length) => kn_all N (by omega) hm
  have SU := fun W => sure_any W
  have FE : Hid (∀ (L : List Tok) (m : Nat) (W : World) (v : Value), TkV W v L → m ≤ L.length → Calls Tryz.prog 6 #[v, .int .i64 (m : Int)] W (AnsF W (faceR (exprF L (fuelL L) m 0)))) := fun L m W v h hm => by rw [← read_at L _ hm]; exact faceExpr L W v m h (by have := h.small; omega)
  have FT : Hid (∀ (L : List Tok) (m : Nat) (W : World) (v : Value), TkV W v L → m ≤ L.length → Calls Tryz.prog 7 #[v, .int .i64 (m : Int)] W (AnsF W (faceR (typeF L (fuelL L) m 0)))) := fun L m W v h hm => by rw [← read_at L _ hm]; exact faceType L W v m h (by have := h.small; omega)
  have FS : Hid (∀ (L : List Tok) (m : Nat) (W : World) (v : Value), TkV W v L → m ≤ L.length → Calls Tryz.prog 8 #[v, .int .i64 (m : Int)] W (AnsF W (faceR (stmtF L (fuelL L) m 0)))) := fun L m W v h hm => by rw [← read_at L _ hm]; exact faceStmt L W v m h (by have := h.small; omega)
  have hL : (srcT s.data.toList).length ≤ 1048576 := by omega
  clear hc el N
  generalize srcT s.data.toList = L at *
  go_enter Tryz.func3, Tryz.ntmps3
  go_wp2_with fail
  go_at_call 4
  refine (T1 _).mono ?_
  rintro e W1 ⟨⟨v1, rfl, t1⟩, b1⟩
  obtain ⟨ta, tc, rfl⟩ : ∃ ta tc, v1 = .slice ta L.length tc := by
    obtain ⟨⟨ta, tc, _, _, e, _⟩, _⟩ := t1
    exact ⟨ta, tc, e⟩
  by_cases h0 : L.length = 0
  · have h0' : ((L.length : Int) == 0) = true := by rw [h0]; rfl
    have BZ : Hid (Below w.heap.size w W1) := b1
    clear b1 t1 h0 KN
    go_wp2_with fail
    go_at_call 5
    refine (SU _).mono ?_
    rintro e Z1 ⟨rfl, g1⟩
    have b6 : Hid (Below w.heap.size w Z1) := BZ.out.trans (g1.mono BZ.out.size)
    clear g1
    go_wp2
    go_ret
    exact ⟨rfl, b6.out⟩
  · have h0' : ((L.length : Int) == 0) = false := int_eqb (by omega)
    have HL0 : Hid (0 < L.length) := by show 0 < L.length; omega
    clear h0
    go_wp2_with fail
    have hz0 : 0 ≤ max 0 (min i ((L.length : Int) - 1)) := by omega
    have hz1 : max 0 (min i ((L.length : Int) - 1)) < L.length := by have := HL0.out; omega
    generalize max 0 (min i ((L.length : Int) - 1)) = z at *
    obtain ⟨m, rfl⟩ := Int.eq_ofNat_of_zero_le hz0
    have hm : Hid (m < L.length) := by show m < L.length; omega
    have hm2 : m ≤ 1048576 := by omega
    obtain ⟨k1, k2, k3⟩ := KN m (by omega)
    clear KN hz0 hz1
    have TB : Hid (∀ W, Below W1.heap.size W1 W → TkV W (.slice ta L.length tc) L) := fun W b => by
      obtain ⟨⟨ta', tc', bl, of, e, h1, h2, h3⟩, h4, h5⟩ := t1
      exact ⟨⟨ta', tc', bl, of, e, h1, h2.bel b, h3⟩, h4, h5⟩
    go_at_call 6
    refine (FE.out L m _ _ (TB.out _ (Below.refl _ _)) (by have := hm.out; omega)).mono ?_
    generalize faceR (exprF L (fuelL L) m 0) = r1 at *
    rintro e W2 ⟨ad2, c2, rfl, l2, b2⟩
    have n2 := (Below.refl W2.heap.size W2).alloc (Nat.le_refl _) (Obj.cells #[Value.int IntKind.i64 r1.x.k, Value.string r1.x.t, Value.int IntKind.i64 r1.x.n, Value.slice ad2 r1.x.ks.length c2] 27)
    have B2 := b2.trans (n2.mono b2.size)
    go_wp2_with fail
    go_at_call 7
    refine (FT.out L m _ _ (TB.out _ B2) (by have := hm.out; omega)).mono ?_
    generalize faceR (typeF L (fuelL L) m 0) = r2 at *
    rintro e W4 ⟨ad4, c4, rfl, l4, b4⟩
    have n4 := (Below.refl W4.heap.size W4).alloc (Nat.le_refl _) (Obj.cells #[Value.int IntKind.i64 r2.x.k, Value.string r2.x.t, Value.int IntKind.i64 r2.x.n, Value.slice ad4 r2.x.ks.length c4] 27)
    have B4 := B2.trans ((b4.mono B2.size).trans (n4.mono (Nat.le_trans B2.size b4.size)))
    go_wp2_with fail
    go_at_call 8
    refine (FS.out L m _ _ (TB.out _ B4) (by have := hm.out; omega)).mono ?_
    generalize faceR (stmtF L (fuelL L) m 0) = r3 at *
    rintro e W6 ⟨ad6, c6, rfl, l6, b6⟩
    have n6 := (Below.refl W6.heap.size W6).alloc (Nat.le_refl _) (Obj.cells #[Value.int IntKind.i64 r3.x.k, Value.string r3.x.t, Value.int IntKind.i64 r3.x.n, Value.slice ad6 r3.x.ks.length c6] 27)
    have B6 := B4.trans ((b6.mono B4.size).trans (n6.mono (Nat.le_trans B4.size b6.size)))
    obtain ⟨V0, hV0⟩ : ∃ V, W6.alloc (Obj.cells #[Value.int IntKind.i64 r3.x.k, Value.string r3.x.t, Value.int IntKind.i64 r3.x.n, Value.slice ad6 r3.x.ks.length c6] 27) = V := ⟨_, rfl⟩
    have HA : Hid (∀ W, Below V0.heap.size V0 W → W.heap[W2.heap.size]? = some (.cells #[Value.int IntKind.i64 r1.x.k, Value.string r1.x.t, Value.int IntKind.i64 r1.x.n, Value.slice ad2 r1.x.ks.length c2] 27 (0, 0)) ∧ W.heap[W4.heap.size]? = some (.cells #[Value.int IntKind.i64 r2.x.k, Value.string r2.x.t, Value.int IntKind.i64 r2.x.n, Value.slice ad4 r2.x.ks.length c4] 27 (0, 0)) ∧ W.heap[W6.heap.size]? = some (.cells #[Value.int IntKind.i64 r3.x.k, Value.string r3.x.t, Value.int IntKind.i64 r3.x.n, Value.slice ad6 r3.x.ks.length c6] 27 (0, 0)) ∧ LAt W (fun b => W1.heap.size ≤ b) (.slice ad2 r1.x.ks.length c2) r1.x.ks ∧ LAt W (fun b => W2.heap.size + 1 ≤ b) (.slice ad4 r2.x.ks.length c4) r2.x.ks ∧ LAt W (fun b => W4.heap.size + 1 ≤ b) (.slice ad6 r3.x.ks.length c6) r3.x.ks ∧ Below w.heap.size w W) := by
      intro W bW
      rw [← hV0] at bW
      have s2 := b2.size
      have s4 := b4.size
      have s6 := b6.size
      simp at s4 s6
      have g6 := n6.trans (bW.mono (by simp))
      have g4 := n4.trans ((b6.mono (by simp)).trans (g6.mono (by omega)))
      have g2 := n2.trans ((b4.mono (by simp)).trans (g4.mono (by omega)))
      refine ⟨?_, ?_, ?_, l2.bel g2, (l4.bel g4).mono (fun b hb => by simpa using hb), (l6.bel g6).mono (fun b hb => by simpa using hb), b1.trans ((b2.mono b1.size).trans (g2.mono (by have := b1.size; omega)))⟩
      · have q : (W2.alloc (Obj.cells #[Value.int IntKind.i64 r1.x.k, Value.string r1.x.t, Value.int IntKind.i64 r1.x.n, Value.slice ad2 r1.x.ks.length c2] 27)).heap[W2.heap.size]? = _ := heap_alloc_new W2 _
        exact (bW.block _ (by simp; omega)).trans ((Below.heap_alloc _ _ _ (by omega)).trans ((b6.block _ (by simp; omega)).trans ((Below.heap_alloc _ _ _ (by omega)).trans ((b4.block _ (by simp)).trans q))))
      · have q : (W4.alloc (Obj.cells #[Value.int IntKind.i64 r2.x.k, Value.string r2.x.t, Value.int IntKind.i64 r2.x.n, Value.slice ad4 r2.x.ks.length c4] 27)).heap[W4.heap.size]? = _ := heap_alloc_new W4 _
        exact (bW.block _ (by simp; omega)).trans ((Below.heap_alloc _ _ _ (by omega)).trans ((b6.block _ (by simp)).trans q))
      · have q : (W6.alloc (Obj.cells #[Value.int IntKind.i64 r3.x.k, Value.string r3.x.t, Value.int IntKind.i64 r3.x.n, Value.slice ad6 r3.x.ks.length c6] 27)).heap[W6.heap.size]? = _ := heap_alloc_new W6 _
        exact (bW.block _ (by simp)).trans q
    have bV : Below V0.heap.size V0 V0 := Below.refl _ _
    obtain ⟨z1, o1, lo1, hi1'⟩ := k1
    obtain ⟨z2, o2, lo2, hi2'⟩ := k2
    obtain ⟨z3, o3, lo3, hi3'⟩ := k3
    have o1 : Hid (r1.e = 0 → XF 1 r1.x ∧ m < r1.p ∧ r1.p ≤ L.length) := o1
    have o2 : Hid (r2.e = 0 → XF 2 r2.x ∧ m < r2.p ∧ r2.p ≤ L.length) := o2
    have o3 : Hid (r3.e = 0 → XF 3 r3.x ∧ m < r3.p ∧ r3.p ≤ L.length) := o3
    clear b1 b2 b4 b6 n2 n4 n6 B2 B4 B6 l2 l4 l6 t1 TB FE FT FS
    by_cases g1 : r1.e = 0
    · obtain ⟨xf, p1, p2⟩ := o1.out g1
      have g1' : (r1.e == 0) = true := by rw [g1]; rfl
      have t1' : decide ((r1.p : Int) ≤ (m : Int)) = false := decide_eq_false (by omega)
      have t2' : decide ((L.length : Int) < (r1.p : Int)) = false := decide_eq_false (by omega)
      have q1 : (r1.e == 0) = true ∨ decide ((m : Int) ≤ (r1.p : Int)) = true := .inl g1'
      obtain ⟨mA, mB, mC, lA, lB, lC, _⟩ := HA.out _ bV
      have SM := formW (f := 1) (by decide) xf z1 _ _ _ _ lA
      unfold nv at SM
      obtain ⟨⟨_, _, _, _⟩, _, _, _, _⟩ := t4 mA
      clear xf mA mB mC lA lB lC
      go_wp2_with fail
      go_at_call 9
      refine SM.mono ?_
      rintro e Y1 ⟨rfl, d8⟩
      have bV : Below V0.heap.size V0 Y1 := bV.trans (d8.mono bV.size)
      clear d8 SM
      by_cases g2 : r2.e = 0
      · obtain ⟨xf, p1, p2⟩ := o2.out g2
        have g2' : (r2.e == 0) = true := by rw [g2]; rfl
        have t1' : decide ((r2.p : Int) ≤ (m : Int)) = false := decide_eq_false (by omega)
        have t2' : decide ((L.length : Int) < (r2.p : Int)) = false := decide_eq_false (by omega)
        have q2 : (r2.e == 0) = true ∨ decide ((m : Int) ≤ (r2.p : Int)) = true := .inl g2'
        obtain ⟨mA, mB, mC, lA, lB, lC, _⟩ := HA.out _ bV
        have SM := formW (f := 2) (by decide) xf z2 _ _ _ _ lB
        unfold nv at SM
        obtain ⟨⟨_, _, _, _⟩, _, _, _, _⟩ := t4 mB
        clear xf mA mB mC lA lB lC
        go_wp2_with fail
        go_at_call 9
        refine SM.mono ?_
        rintro e Y2 ⟨rfl, d8⟩
        have bV : Below V0.heap.size V0 Y2 := bV.trans (d8.mono bV.size)
        clear d8 SM
        by_cases g3 : r3.e = 0
        · obtain ⟨xf, p1, p2⟩ := o3.out g3
          have g3' : (r3.e == 0) = true := by rw [g3]; rfl
          have t1' : decide ((r3.p : Int) ≤ (m : Int)) = false := decide_eq_false (by omega)
          have t2' : decide ((L.length : Int) < (r3.p : Int)) = false := decide_eq_false (by omega)
          have q3 : (r3.e == 0) = true ∨ decide ((m : Int) ≤ (r3.p : Int)) = true := .inl g3'
          obtain ⟨mA, mB, mC, lA, lB, lC, _⟩ := HA.out _ bV
          have SM := formW (f := 3) (by decide) xf z3 _ _ _ _ lC
          unfold nv at SM
          obtain ⟨⟨_, _, _, _⟩, _, _, _, _⟩ := t4 mC
          clear xf mA mB mC lA lB lC
          go_wp2_with fail
          go_at_call 9
          refine SM.mono ?_
          rintro e Y3 ⟨rfl, d8⟩
          have bV : Below V0.heap.size V0 Y3 := bV.trans (d8.mono bV.size)
          clear d8 SM
          have BZ : Hid (Below w.heap.size w _) := (HA.out _ bV).2.2.2.2.2.2
          go_wp2_with fail
          go_at_call 5
          refine (SU _).mono ?_
          rintro e Z1 ⟨rfl, h9⟩
          have b9 : Hid (Below w.heap.size w Z1) := BZ.out.trans (h9.mono BZ.out.size)
          clear h9
          go_wp2
          go_ret
          exact ⟨rfl, b9.out⟩
        · have g3' : (r3.e == 0) = false := by simp [g3]
          have t3' : decide ((m : Int) ≤ (r3.p : Int)) = true := decide_eq_true (by omega)
          have BZ : Hid (Below w.heap.size w _) := (HA.out _ bV).2.2.2.2.2.2
          go_wp2_with fail
          go_at_call 5
          refine (SU _).mono ?_
          rintro e Z1 ⟨rfl, h9⟩
          have b9 : Hid (Below w.heap.size w Z1) := BZ.out.trans (h9.mono BZ.out.size)
          clear h9
          go_wp2
          go_ret
          exact ⟨rfl, b9.out⟩
      · have g2' : (r2.e == 0) = false := by simp [g2]
        have t3' : decide ((m : Int) ≤ (r2.p : Int)) = true := decide_eq_true (by omega)
        by_cases g3 : r3.e = 0
        · obtain ⟨xf, p1, p2⟩ := o3.out g3
          have g3' : (r3.e == 0) = true := by rw [g3]; rfl
          have t1' : decide ((r3.p : Int) ≤ (m : Int)) = false := decide_eq_false (by omega)
          have t2' : decide ((L.length : Int) < (r3.p : Int)) = false := decide_eq_false (by omega)
          have q3 : (r3.e == 0) = true ∨ decide ((m : Int) ≤ (r3.p : Int)) = true := .inl g3'
          obtain ⟨mA, mB, mC, lA, lB, lC, _⟩ := HA.out _ bV
          have SM := formW (f := 3) (by decide) xf z3 _ _ _ _ lC
          unfold nv at SM
          obtain ⟨⟨_, _, _, _⟩, _, _, _, _⟩ := t4 mC
          clear xf mA mB mC lA lB lC
          go_wp2_with fail
          go_at_call 9
          refine SM.mono ?_
          rintro e Y3 ⟨rfl, d8⟩
          have bV : Below V0.heap.size V0 Y3 := bV.trans (d8.mono bV.size)
          clear d8 SM
          have BZ : Hid (Below w.heap.size w _) := (HA.out _ bV).2.2.2.2.2.2
          go_wp2_with fail
          go_at_call 5
          refine (SU _).mono ?_
          rintro e Z1 ⟨rfl, h9⟩
          have b9 : Hid (Below w.heap.size w Z1) := BZ.out.trans (h9.mono BZ.out.size)
          clear h9
          go_wp2
          go_ret
          exact ⟨rfl, b9.out⟩
        · have g3' : (r3.e == 0) = false := by simp [g3]
          have t3' : decide ((m : Int) ≤ (r3.p : Int)) = true := decide_eq_true (by omega)
          have BZ : Hid (Below w.heap.size w _) := (HA.out _ bV).2.2.2.2.2.2
          go_wp2_with fail
          go_at_call 5
          refine (SU _).mono ?_
          rintro e Z1 ⟨rfl, h9⟩
          have b9 : Hid (Below w.heap.size w Z1) := BZ.out.trans (h9.mono BZ.out.size)
          clear h9
          go_wp2
          go_ret
          exact ⟨rfl, b9.out⟩
    · have g1' : (r1.e == 0) = false := by simp [g1]
      have t3' : decide ((m : Int) ≤ (r1.p : Int)) = true := decide_eq_true (by omega)
      by_cases g2 : r2.e = 0
      · obtain ⟨xf, p1, p2⟩ := o2.out g2
        have g2' : (r2.e == 0) = true := by rw [g2]; rfl
        have t1' : decide ((r2.p : Int) ≤ (m : Int)) = false := decide_eq_false (by omega)
        have t2' : decide ((L.length : Int) < (r2.p : Int)) = false := decide_eq_false (by omega)
        have q2 : (r2.e == 0) = true ∨ decide ((m : Int) ≤ (r2.p : Int)) = true := .inl g2'
        obtain ⟨mA, mB, mC, lA, lB, lC, _⟩ := HA.out _ bV
        have SM := formW (f := 2) (by decide) xf z2 _ _ _ _ lB
        unfold nv at SM
        obtain ⟨⟨_, _, _, _⟩, _, _, _, _⟩ := t4 mB
        clear xf mA mB mC lA lB lC
        go_wp2_with fail
        go_at_call 9
        refine SM.mono ?_
        rintro e Y2 ⟨rfl, d8⟩
        have bV : Below V0.heap.size V0 Y2 := bV.trans (d8.mono bV.size)
        clear d8 SM
        by_cases g3 : r3.e = 0
        · obtain ⟨xf, p1, p2⟩ := o3.out g3
          have g3' : (r3.e == 0) = true := by rw [g3]; rfl
          have t1' : decide ((r3.p : Int) ≤ (m : Int)) = false := decide_eq_false (by omega)
          have t2' : decide ((L.length : Int) < (r3.p : Int)) = false := decide_eq_false (by omega)
          have q3 : (r3.e == 0) = true ∨ decide ((m : Int) ≤ (r3.p : Int)) = true := .inl g3'
          obtain ⟨mA, mB, mC, lA, lB, lC, _⟩ := HA.out _ bV
          have SM := formW (f := 3) (by decide) xf z3 _ _ _ _ lC
          unfold nv at SM
          obtain ⟨⟨_, _, _, _⟩, _, _, _, _⟩ := t4 mC
          clear xf mA mB mC lA lB lC
          go_wp2_with fail
          go_at_call 9
          refine SM.mono ?_
          rintro e Y3 ⟨rfl, d8⟩
          have bV : Below V0.heap.size V0 Y3 := bV.trans (d8.mono bV.size)
          clear d8 SM
          have BZ : Hid (Below w.heap.size w _) := (HA.out _ bV).2.2.2.2.2.2
          go_wp2_with fail
          go_at_call 5
          refine (SU _).mono ?_
          rintro e Z1 ⟨rfl, h9⟩
          have b9 : Hid (Below w.heap.size w Z1) := BZ.out.trans (h9.mono BZ.out.size)
          clear h9
          go_wp2
          go_ret
          exact ⟨rfl, b9.out⟩
        · have g3' : (r3.e == 0) = false := by simp [g3]
          have t3' : decide ((m : Int) ≤ (r3.p : Int)) = true := decide_eq_true (by omega)
          have BZ : Hid (Below w.heap.size w _) := (HA.out _ bV).2.2.2.2.2.2
          go_wp2_with fail
          go_at_call 5
          refine (SU _).mono ?_
          rintro e Z1 ⟨rfl, h9⟩
          have b9 : Hid (Below w.heap.size w Z1) := BZ.out.trans (h9.mono BZ.out.size)
          clear h9
          go_wp2
          go_ret
          exact ⟨rfl, b9.out⟩
      · have g2' : (r2.e == 0) = false := by simp [g2]
        have t3' : decide ((m : Int) ≤ (r2.p : Int)) = true := decide_eq_true (by omega)
        by_cases g3 : r3.e = 0
        · obtain ⟨xf, p1, p2⟩ := o3.out g3
          have g3' : (r3.e == 0) = true := by rw [g3]; rfl
          have t1' : decide ((r3.p : Int) ≤ (m : Int)) = false := decide_eq_false (by omega)
          have t2' : decide ((L.length : Int) < (r3.p : Int)) = false := decide_eq_false (by omega)
          have q3 : (r3.e == 0) = true ∨ decide ((m : Int) ≤ (r3.p : Int)) = true := .inl g3'
          obtain ⟨mA, mB, mC, lA, lB, lC, _⟩ := HA.out _ bV
          have SM := formW (f := 3) (by decide) xf z3 _ _ _ _ lC
          unfold nv at SM
          obtain ⟨⟨_, _, _, _⟩, _, _, _, _⟩ := t4 mC
          clear xf mA mB mC lA lB lC
          go_wp2_with fail
          go_at_call 9
          refine SM.mono ?_
          rintro e Y3 ⟨rfl, d8⟩
          have bV : Below V0.heap.size V0 Y3 := bV.trans (d8.mono bV.size)
          clear d8 SM
          have BZ : Hid (Below w.heap.size w _) := (HA.out _ bV).2.2.2.2.2.2
          go_wp2_with fail
          go_at_call 5
          refine (SU _).mono ?_
          rintro e Z1 ⟨rfl, h9⟩
          have b9 : Hid (Below w.heap.size w Z1) := BZ.out.trans (h9.mono BZ.out.size)
          clear h9
          go_wp2
          go_ret
          exact ⟨rfl, b9.out⟩
        · have g3' : (r3.e == 0) = false := by simp [g3]
          have t3' : decide ((m : Int) ≤ (r3.p : Int)) = true := decide_eq_true (by omega)
          have BZ : Hid (Below w.heap.size w _) := (HA.out _ bV).2.2.2.2.2.2
          go_wp2_with fail
          go_at_call 5
          refine (SU _).mono ?_
          rintro e Z1 ⟨rfl, h9⟩
          have b9 : Hid (Below w.heap.size w Z1) := BZ.out.trans (h9.mono BZ.out.size)
          clear h9
          go_wp2
          go_ret
          exact ⟨rfl, b9.out⟩
end Go.Proofs.YtmfgcaffdkakhaaGreat
namespace Go.Proofs.YtmfgcaffdkakhaaGreat
open Go.ChangeShapes Go.WideShapes Go.ChangeAt Go.RowKit
set_option linter.unusedVariables false

theorem own : ownKnob Tryz.prog.godebug = none := by kernel_rfl
theorem laidOut : laidOutB Tryz.prog = true := by kernel_rfl

theorem below_trodAll {H : Type} {enc : TypeId × Value → H} {P : Program} (hl : laidOutB P = true) {W W' : World} (hb : Below W.heap.size W W') : ∀ (ts : List TypeId) {vs : List Value} {ds : List (DataW H)} {ps : List MemPlace},
    ts.all (fun t => P.readableRec t && decide (t < P.types.size)) = true → DataW.TrodAll enc P W 0 (fun _ => true) true ts vs ds ps → (∀ x ∈ ps, x.block < W.heap.size) →
    DataW.TrodAll enc P W' 0 (fun b => decide (b < W.heap.size)) true ts vs ds ps := by
  intro ts
  induction ts with
  | nil =>
    intro vs ds ps _ h _
    cases vs <;> cases ds <;> first | exact h | exact h.elim
  | cons t ts ih =>
    intro vs ds ps hr h hlt
    obtain ⟨v, vs', d, ds', p, q, rfl, rfl, rfl, h1, h2⟩ := trodAll_cons h
    simp only [List.all_cons, Bool.and_eq_true, decide_eq_true_eq] at hr
    exact ⟨p, q, Below.trod hl hr.1.1 hr.1.2 h1 hb (fun x hx => hlt x (by simp [hx])), ih (by simpa using hr.2) h2 (fun x hx => hlt x (by simp [hx])), rfl⟩

/-- a text. -/
theorem open_text {H : Type} {enc : TypeId × Value → H} {W : World} {base : Nat} {v : Value} {d : DataW H} {ps : List MemPlace} (hv : Value.okWide Tryz.prog W .any base 9 v) (h : DataW.Trod enc Tryz.prog W 0 (fun _ => true) true 9 v d ps) :
    ∃ a, v = .string a ∧ ((∀ B, (∀ n ∈ d.weights Tryz.prog 9, n ≤ B) → a.size ≤ B) ∧ ∀ B, Rows.uptoBulk d ≤ B → a.size ≤ B) := by
  obtain ⟨a, rfl⟩ := okWide_string Tryz.underlying9 hv
  obtain ⟨fuel, h⟩ := h
  obtain ⟨s, hs, hx, _⟩ := DataW.trod_string Tryz.underlying9 h
  cases hs
  cases hx
  have e : a.size = a.data.toList.length := Lib.size_eq a
  refine ⟨a, rfl, fun B hB => ?_, fun B hB => ?_⟩
  · rw [e]; exact hB _ (by simp [DataW.weights])
  · rw [e]
    have : Rows.uptoBulk (DataW.lit (.string a.data.toList) : DataW H) = a.data.toList.length + 1 := rfl
    omega

end Go.Proofs.YtmfgcaffdkakhaaGreat
