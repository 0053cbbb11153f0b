/- What holding a document to a filter answers, by the program and by the specification, for every right filter and document. -/
import Derived.Test.YtpfbepbmiillbaaGreatDoorOpenTQ
import Derived.Test.YtpfbepbmiillbaaGreatDoorOrdKQ
import Derived.Test.YtpfbepbmiillbaaGreatDoorChgVQ
import Derived.Test.YtpfbepbmiillbaaGreatDoorTwcIQ
import Derived.WalkMore
import Derived.RangeFuncFrom
import Derived.Deep.RegionHeld3
namespace Go.Proofs.YtpfbepbmiillbaaGreatDoor
open Go.RowKit
set_option linter.unusedVariables false

/-- Does a term, does a clause let in a document. -/
def oneL (doc : Val) (t : Trm) : Bool := termL t.op t.p t.c doc
def clauseL (doc : Val) (l : List Trm) : Bool := l.all (oneL doc)
/-- Does a filter let in a document. -/
def filtL (doc : Val) (f : List (List Trm)) : Bool := f.any (clauseL doc)
theorem clause_not (doc : Val) (l : List Trm) : clauseL doc l = !(l.any (fun t => !(oneL doc t))) := by
  unfold clauseL; rw [List.not_any_eq_all_not]; simp
theorem okT_parts (t : Trm) (h : okT t = true) : t.p.size ≤ 300 ∧ okB t.c = true ∧ (1 ≤ t.op ∧ t.op ≤ 10) ∧ (t.op = 7 → t.c.k = 4) := by
  obtain ⟨h1, h2, h3, h4⟩ := termB_parts t.op t.p t.c h
  exact ⟨by omega, h2, h3, h4⟩
/-- One cell in the first new block, three in the second. -/
structure B13 (w W : World) (a x y z : Value) : Prop where
  bel : Below w.heap.size w W
  lt : w.heap.size + 1 < W.heap.size
  c0 : W.cell? ⟨w.heap.size, 0, none⟩ = some a
  d0 : W.cell? ⟨w.heap.size + 1, 0, none⟩ = some x
  d1 : W.cell? ⟨w.heap.size + 1, 1, none⟩ = some y
  d2 : W.cell? ⟨w.heap.size + 1, 2, none⟩ = some z
theorem B13.start (w : World) (a x y z : Value) (T U : TypeId) : B13 w ((w.alloc (.cells #[a] T)).alloc (.cells #[x, y, z] U)) a x y z :=
  ⟨((Below.refl _ _).alloc (Nat.le_refl _) _).alloc (by simp) _, by simp, by simp [go_sem], by simp [go_sem], by simp [go_sem], by simp [go_sem]⟩
theorem B13.step {w W W' : World} {a x y z : Value} (h : B13 w W a x y z) (hb : Below W.heap.size W W') : B13 w W' a x y z :=
  have hl : w.heap.size < W.heap.size := Nat.lt_of_succ_lt h.lt
  ⟨h.bel.trans (hb.mono h.bel.size), Nat.lt_of_lt_of_le h.lt hb.size, (hb.cell hl).trans h.c0, (hb.cell h.lt).trans h.d0, (hb.cell h.lt).trans h.d1, (hb.cell h.lt).trans h.d2⟩
/-- A document lies in a block. -/
structure DocIn (W : World) (b : Nat) (v : Val) : Prop where
  lt : b < W.heap.size
  c0 : W.cell? ⟨b, 0, none⟩ = some (.int .i64 v.k)
  c1 : W.cell? ⟨b, 1, none⟩ = some (.int .i64 v.n)
  c2 : W.cell? ⟨b, 2, none⟩ = some (.string v.t)
theorem DocIn.step {W W' : World} {b : Nat} {v : Val} (h : DocIn W b v) (hb : Below W.heap.size W W') : DocIn W' b v :=
  ⟨Nat.lt_of_lt_of_le h.lt hb.size, (hb.cell h.lt).trans h.c0, (hb.cell h.lt).trans h.c1, (hb.cell h.lt).trans h.c2⟩

/-- What holding a document to a filter comes to. -/
def matchF (doc : Val) (f : List (List Trm)) : Bool × Int := if filtB f = true ∧ docB doc = true then (filtL doc f, 0) else (false, 1)
end Go.Proofs.YtpfbepbmiillbaaGreatDoor

/- Whether a read hangs on a change: what both sides answer. -/
namespace Go.Proofs.YtpfbepbmiillbaaGreatDoor.Ce
open Go.RowKit Tr Co Rea
set_option linter.unusedVariables false

/-- Whether a read hangs on a change. -/
def hitB (x : Rdg) (y : Cgr) : Bool := (x.coll.toList == y.wr.coll.toList) && ((y.was && filtL y.bef x.f) || (!y.wr.gone && filtL y.wr.doc x.f))
/-- What a right filter's terms are. -/
theorem filtB_parts (f : List (List Trm)) (h : filtB f = true) : f.length ≤ 1048576 ∧ ∀ l ∈ f, l.length ≤ 1048576 ∧ ∀ t ∈ l, okT t = true := by
  unfold filtB at h
  simp only [Bool.and_eq_true, decide_eq_true_eq, List.all_eq_true] at h
  refine ⟨by omega, fun l hl => ?_⟩
  have := h.2 l hl
  unfold clauseB at this
  simp only [Bool.and_eq_true, decide_eq_true_eq, List.all_eq_true] at this
  exact ⟨by omega, this.2⟩
theorem okCg_parts (y : Cgr) (h : okCg y = true) : (y.was = true → okB y.bef = true) ∧ (y.wr.gone = false → okB y.wr.doc = true) := by
  unfold okCg writeB at h
  simp only [Bool.and_eq_true] at h
  obtain ⟨⟨-, -, h1⟩, h2⟩ := h
  constructor
  · intro hw
    rw [hw] at h2
    simp only [stateB, docB, Bool.not_true, Bool.false_eq_true, if_false, Bool.and_eq_true] at h2
    exact h2.1.2
  · intro hg
    rw [hg] at h1
    simp only [stateB, docB, Bool.false_eq_true, if_false, Bool.and_eq_true] at h1
    exact h1.1.2
/-- The two boxes, as later worlds have them. -/
structure BxH (w W : World) (v g0 g1 g2 g3 g4 : Value) : Prop where
  bel : Below w.heap.size w W
  lt : w.heap.size + 1 < W.heap.size
  c1 : W.cell? ⟨w.heap.size, 1, none⟩ = some v
  d2 : W.cell? ⟨w.heap.size + 1, 2, none⟩ = some g0
  d3 : W.cell? ⟨w.heap.size + 1, 3, none⟩ = some g1
  d4 : W.cell? ⟨w.heap.size + 1, 4, none⟩ = some g2
  d5 : W.cell? ⟨w.heap.size + 1, 5, none⟩ = some g3
theorem BxH.step {w W W' : World} {v g0 g1 g2 g3 g4 : Value} (h : BxH w W v g0 g1 g2 g3 g4) (hb : Below W.heap.size W W') : BxH w W' v g0 g1 g2 g3 g4 :=
  ⟨h.bel.trans (hb.mono h.bel.size), Nat.lt_of_lt_of_le h.lt hb.size, (hb.cell (Nat.lt_of_succ_lt h.lt)).trans h.c1, (hb.cell h.lt).trans h.d2, (hb.cell h.lt).trans h.d3, (hb.cell h.lt).trans h.d4, (hb.cell h.lt).trans h.d5⟩
theorem BxH.start (w : World) (u v a0 a1 a2 a3 a4 a5 a6 a7 a8 a9 : Value) (T U : TypeId) : BxH w ((w.alloc (.cells #[u, v] T)).alloc (.cells #[a0, a1, a2, a3, a4, a5, a6, a7, a8, a9] U)) v a2 a3 a4 a5 a5 :=
  ⟨((Below.refl _ _).alloc (Nat.le_refl _) _).alloc (by simp) _, by simp, by simp [go_sem], by simp [go_sem], by simp [go_sem], by simp [go_sem], by simp [go_sem]⟩

end Go.Proofs.YtpfbepbmiillbaaGreatDoor.Ce

/- The places of the pairs that are bound, in their order. -/
namespace Go.Proofs.YtpfbepbmiillbaaGreatDoor.Ce
open Go.RowKit Go.Shelf Tr Co Rea
set_option linter.unusedVariables false

/-- The bound pairs ahead of (k, q), in their order. -/
def upTo (m : Nat) (P : Nat → Nat → Bool) (k q : Nat) : List (Nat × Nat) :=
  (List.range k).flatMap (fun i => ((List.range m).filter (P i)).map (fun j => (i, j))) ++ ((List.range q).filter (P k)).map (fun j => (k, j))
theorem upTo_zero (m : Nat) (P : Nat → Nat → Bool) : upTo m P 0 0 = [] := by simp [upTo]
theorem upTo_next (m : Nat) (P : Nat → Nat → Bool) (k q : Nat) (h : P k q = false) : upTo m P k (q + 1) = upTo m P k q := by
  simp [upTo, List.range_succ, List.filter_append, h]
theorem upTo_add (m : Nat) (P : Nat → Nat → Bool) (k q : Nat) (h : P k q = true) : upTo m P k (q + 1) = upTo m P k q ++ [(k, q)] := by
  simp [upTo, List.range_succ, List.filter_append, h]
theorem upTo_turn (m : Nat) (P : Nat → Nat → Bool) (k : Nat) : upTo m P (k + 1) 0 = upTo m P k m := by
  simp [upTo, List.range_succ, List.flatMap_append]
theorem upTo_length (m : Nat) (P : Nat → Nat → Bool) : ∀ k q, (upTo m P k q).length ≤ k * m + q
  | k, q + 1 => by
    have := upTo_length m P k q
    cases h : P k q
    · rw [upTo_next m P k q h]; omega
    · rw [upTo_add m P k q h, List.length_append]; simp; omega
  | k + 1, 0 => by
    have := upTo_length m P k m
    rw [upTo_turn, Nat.add_mul]; omega
  | 0, 0 => by rw [upTo_zero]; simp
theorem upTo_mem (m : Nat) (P : Nat → Nat → Bool) (k q : Nat) (x : Nat × Nat) : x ∈ upTo m P k q ↔ ((x.1 < k ∧ x.2 < m) ∨ (x.1 = k ∧ x.2 < q)) ∧ P x.1 x.2 = true := by
  obtain ⟨a, b⟩ := x
  simp only [upTo, List.mem_append, List.mem_flatMap, List.mem_map, List.mem_filter, List.mem_range, Prod.mk.injEq]
  constructor
  · rintro (⟨i, hi, j, ⟨hj, hP⟩, rfl, rfl⟩ | ⟨j, ⟨hj, hP⟩, rfl, rfl⟩)
    · exact ⟨.inl ⟨hi, hj⟩, hP⟩
    · exact ⟨.inr ⟨rfl, hj⟩, hP⟩
  · rintro ⟨⟨h1, h2⟩ | ⟨rfl, h2⟩, hP⟩
    · exact .inl ⟨a, h1, b, ⟨h2, hP⟩, rfl, rfl⟩
    · exact .inr ⟨b, ⟨h2, hP⟩, rfl, rfl⟩
theorem upTo_room (n m : Nat) (P : Nat → Nat → Bool) (k q : Nat) (hk : k < n) (hq : q < m) : (upTo m P k q).length < n * m := by
  have h1 := upTo_length m P k q
  have h2 : (k + 1) * m ≤ n * m := Nat.mul_le_mul_right _ hk
  rw [Nat.add_mul] at h2
  omega
/-- A pair that is bound. -/
def Gd (n m : Nat) (P : Nat → Nat → Bool) (x : Nat × Nat) : Prop := x.1 < n ∧ x.2 < m ∧ P x.1 x.2 = true
theorem upTo_gd (n m : Nat) (P : Nat → Nat → Bool) (k q : Nat) (hk : k < n) (hq : q < m) (h : P k q = true) : ∀ x ∈ upTo m P k q ++ [(k, q)], Gd n m P x := by
  intro x hx
  rw [← upTo_add m P k q h, upTo_mem] at hx
  obtain ⟨⟨h1, h2⟩ | ⟨h1, h2⟩, h3⟩ := hx
  · exact ⟨by omega, h2, h3⟩
  · exact ⟨by omega, by omega, h3⟩
theorem readT_kc {W W' : World} {g : Nat} {l : List Trm} (h : ReadT W g l) (hk : Kc W W') : ReadT W' g l :=
  ⟨Nat.lt_of_lt_of_le h.lt hk.size, fun i hi => by
    obtain ⟨x0, x1, x2, x3, x4⟩ := h.cells i hi
    exact ⟨hk.cell _ _ _ x0, hk.cell _ _ _ x1, hk.cell _ _ _ x2, hk.cell _ _ _ x3, hk.cell _ _ _ x4⟩⟩
theorem madeC_kc {W W' : World} {b g : Nat} {l : List (List Trm)} (h : MadeC W b g l) (hk : Kc W W') : MadeC W' b g l :=
  ⟨h.ge, Nat.lt_of_lt_of_le h.lt hk.size, fun i hi => by
    obtain ⟨gi, cap, h1, h2, h3⟩ := h.cells i hi
    exact ⟨gi, cap, hk.cell _ _ _ h1, h2, readT_kc h3 hk⟩⟩
theorem madeRd_kc {W W' : World} {b g : Nat} {l : List Rdg} (h : MadeRd W b g l) (hk : Kc W W') : MadeRd W' b g l :=
  ⟨h.ge, Nat.lt_of_lt_of_le h.lt hk.size, fun i hi => by
    obtain ⟨h0, gi, h1, h2⟩ := h.cells i hi
    exact ⟨hk.cell _ _ _ h0, gi, hk.cell _ _ _ h1, madeC_kc h2 hk⟩⟩
/-- A read in a box of its own. -/
structure BxU (W : World) (b : Nat) (s : ByteArray) (v : Value) : Prop where
  c0 : W.cell? ⟨b, 0, none⟩ = some (.string s)
  c1 : W.cell? ⟨b, 1, none⟩ = some v
theorem BxU.kc {W W' : World} {b : Nat} {s : ByteArray} {v : Value} (h : BxU W b s v) (k : Kc W W') : BxU W' b s v := ⟨k.cell _ _ _ h.c0, k.cell _ _ _ h.c1⟩
theorem BxU.start (w : World) (s : ByteArray) (v : Value) (T : TypeId) : BxU (w.alloc (.cells #[.string s, v] T)) w.heap.size s v := by
  constructor <;> simp [go_sem]

end Go.Proofs.YtpfbepbmiillbaaGreatDoor.Ce

/- The pairs of reads and changes that are bound: the iterator's walk. -/
namespace Go.Proofs.YtpfbepbmiillbaaGreatDoor.Ce
open Go.RowKit Go.Shelf Tr Co Rea
set_option linter.unusedVariables false
attribute [local go_sem] Oper.semAt_some

end Go.Proofs.YtpfbepbmiillbaaGreatDoor.Ce

/- Whether some read hangs on some change: the program's loop over the pairs. -/
namespace Go.Proofs.YtpfbepbmiillbaaGreatDoor.Ce
open Go.RowKit Go.Shelf Tr Co Rea
set_option linter.unusedVariables false
attribute [local go_sem] Oper.semAt_some

def pairP (rs : List Rdg) (cs : List Cgr) (i j : Nat) : Bool := match rs[i]?, cs[j]? with | some a, some b => hitB a b | _, _ => false
theorem pairP_at (rs : List Rdg) (cs : List Cgr) (k : Nat) (hk : k < rs.length) (q : Nat) (hq : q < cs.length) : pairP rs cs k q = hitB rs[k] cs[q] := by
  simp [pairP, List.getElem?_eq_getElem hk, List.getElem?_eq_getElem hq]
/-- Whether some read hangs on some change. -/
def hitsB (rs : List Rdg) (cs : List Cgr) : Bool := rs.any (fun r => cs.any (hitB r))
theorem hitsB_yes (rs : List Rdg) (cs : List Cgr) (x : Nat × Nat) (h : Gd rs.length cs.length (pairP rs cs) x) : hitsB rs cs = true := by
  obtain ⟨h1, h2, h3⟩ := h
  rw [pairP_at rs cs x.1 h1 x.2 h2] at h3
  unfold hitsB
  rw [List.any_eq_true]
  refine ⟨rs[x.1], List.getElem_mem _, ?_⟩
  rw [List.any_eq_true]
  exact ⟨cs[x.2], List.getElem_mem _, h3⟩
theorem hitsB_no (rs : List Rdg) (cs : List Cgr) (h : upTo cs.length (pairP rs cs) rs.length 0 = []) : hitsB rs cs = false := by
  rw [Bool.eq_false_iff]
  intro hh
  unfold hitsB at hh
  rw [List.any_eq_true] at hh
  obtain ⟨r, hr, hh⟩ := hh
  rw [List.any_eq_true] at hh
  obtain ⟨c, hc, hh⟩ := hh
  obtain ⟨i, hi, rfl⟩ := List.getElem_of_mem hr
  obtain ⟨j, hj, rfl⟩ := List.getElem_of_mem hc
  have : (i, j) ∈ upTo cs.length (pairP rs cs) rs.length 0 := (upTo_mem _ _ _ _ _).2 ⟨.inl ⟨hi, hj⟩, by rw [pairP_at rs cs i hi j hj]; exact hh⟩
  rw [h] at this
  cases this

end Go.Proofs.YtpfbepbmiillbaaGreatDoor.Ce

/- Whether some read hangs on some change: the specification's answer; whether one must come ahead of another: both answers. -/
namespace Go.Proofs.YtpfbepbmiillbaaGreatDoor.Ce
open Go.RowKit Go.ChangeShapes Go.WideShapes Go.ChangeAt Go.Joins Tr Co Rea
set_option linter.unusedVariables false

theorem keepHt {W w0 : World} {g1 g2 k j gx : Nat} {x : Rdg} {y : Cgr} (l1 : g1 < W.heap.size) (l2 : g2 < W.heap.size) (f0 : W.cell? ⟨g1, k * 2, none⟩ = some (.string x.coll)) (f1 : W.cell? ⟨g1, k * 2 + 1, none⟩ = some (.slice (some ⟨gx, 0, none⟩) x.f.length x.f.length)) (f2 : W.cell? ⟨g2, j * 10, none⟩ = some (.string y.wr.coll)) (f3 : W.cell? ⟨g2, j * 10 + 1, none⟩ = some (.int .i64 y.wr.id)) (f4 : W.cell? ⟨g2, j * 10 + 2, none⟩ = some (.bool y.wr.gone)) (f5 : W.cell? ⟨g2, j * 10 + 3, none⟩ = some (.int .i64 y.wr.doc.k)) (f6 : W.cell? ⟨g2, j * 10 + 4, none⟩ = some (.int .i64 y.wr.doc.n)) (f7 : W.cell? ⟨g2, j * 10 + 5, none⟩ = some (.string y.wr.doc.t)) (f8 : W.cell? ⟨g2, j * 10 + 6, none⟩ = some (.int .i64 y.bef.k)) (f9 : W.cell? ⟨g2, j * 10 + 7, none⟩ = some (.int .i64 y.bef.n)) (f10 : W.cell? ⟨g2, j * 10 + 8, none⟩ = some (.string y.bef.t)) (f11 : W.cell? ⟨g2, j * 10 + 9, none⟩ = some (.bool y.was)) (hb : Below W.heap.size W w0) : w0.cell? ⟨g1, k * 2, none⟩ = some (.string x.coll) ∧ w0.cell? ⟨g1, k * 2 + 1, none⟩ = some (.slice (some ⟨gx, 0, none⟩) x.f.length x.f.length) ∧ w0.cell? ⟨g2, j * 10, none⟩ = some (.string y.wr.coll) ∧ w0.cell? ⟨g2, j * 10 + 1, none⟩ = some (.int .i64 y.wr.id) ∧ w0.cell? ⟨g2, j * 10 + 2, none⟩ = some (.bool y.wr.gone) ∧ w0.cell? ⟨g2, j * 10 + 3, none⟩ = some (.int .i64 y.wr.doc.k) ∧ w0.cell? ⟨g2, j * 10 + 4, none⟩ = some (.int .i64 y.wr.doc.n) ∧ w0.cell? ⟨g2, j * 10 + 5, none⟩ = some (.string y.wr.doc.t) ∧ w0.cell? ⟨g2, j * 10 + 6, none⟩ = some (.int .i64 y.bef.k) ∧ w0.cell? ⟨g2, j * 10 + 7, none⟩ = some (.int .i64 y.bef.n) ∧ w0.cell? ⟨g2, j * 10 + 8, none⟩ = some (.string y.bef.t) ∧ w0.cell? ⟨g2, j * 10 + 9, none⟩ = some (.bool y.was) :=
  ⟨(hb.cell l1).trans f0, (hb.cell l1).trans f1, (hb.cell l2).trans f2, (hb.cell l2).trans f3, (hb.cell l2).trans f4, (hb.cell l2).trans f5, (hb.cell l2).trans f6, (hb.cell l2).trans f7, (hb.cell l2).trans f8, (hb.cell l2).trans f9, (hb.cell l2).trans f10, (hb.cell l2).trans f11⟩
theorem hits_at (rs : List Rdg) (cs : List Cgr) (k j : Nat) (hk : k < rs.length) (hj : j < cs.length) (h : hitB rs[k] cs[j] = true) : hitsB rs cs = true := by
  unfold hitsB
  rw [List.any_eq_true]
  refine ⟨rs[k], List.getElem_mem _, ?_⟩
  rw [List.any_eq_true]
  exact ⟨cs[j], List.getElem_mem _, h⟩
theorem hits_none (rs : List Rdg) (cs : List Cgr) (h : ∀ u ∈ rs, cs.any (hitB u) = false) : hitsB rs cs = false := by
  unfold hitsB
  rw [Bool.eq_false_iff]
  intro hh
  obtain ⟨u, hu, hv⟩ := List.any_eq_true.1 hh
  rw [h u hu] at hv
  cases hv

theorem bel2 (w : World) (a b : Array Value) (T U : TypeId) : Below w.heap.size w ((w.alloc (.cells a T)).alloc (.cells b U)) := ((Below.refl _ _).alloc (Nat.le_refl _) _).alloc (by simp) _

/-- Whether one must come ahead of another. -/
def aheadB (xs xt ys yt : Int) (rs : List Rdg) (cs : List Cgr) : Bool := decide (xt ≤ ys) || (decide (xs < yt) && hitsB rs cs)

set_option maxRecDepth 4000 in
set_option maxHeartbeats 1000000 in
theorem isPivot_any (xs xt : Int) (xr xc : Value) (xi xo : Bool) (w : World) :
    Calls Tryz.prog 77 #[.agg #[.int .i64 xs, .int .i64 xt, xr, xc, .bool xi, .bool xo]] w fun e w' => e = .returned (.bool (xi && xo)) ∧ Below w.heap.size w w' := by
  have hb0 : Below w.heap.size w (w.alloc (.cells #[.int .i64 xs, .int .i64 xt, xr, xc, .bool xi, .bool xo] 81)) := (Below.refl _ _).alloc (Nat.le_refl _) _
  cases xi
  all_goals
    go_enter Tryz.func77, Tryz.ntmps77
    go_wp2_with fail
    go_ret
    exact ⟨rfl, hb0⟩

end Go.Proofs.YtpfbepbmiillbaaGreatDoor.Ce
