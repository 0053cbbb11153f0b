/- What an interval has of a tree: said plainly, and what the specification answers. -/
import Derived.Test.YtnmpfooegnmknaaTrC
import Derived.Test.YtnmpfooegnmknaaTrX
namespace Go.Proofs.Ytnmpfooegnmknaa.Tr
open Go.RowKit
set_option linter.unusedVariables false

theorem infoI : (Try.prog.info? 3).map (fun i => (i.zero, i.size, i.bytes)) = some (some (.int .i64 0), 1, 8) := by kernel_rfl
/-- A walk over the interval goes on to this page. -/
def goB (iv : Ivl) (p : Pg) : Bool := iv.op || (match p.es with
  | [] => true
  | e :: _ => Op.bytesLess e.key.toList iv.hi.toList)
theorem goB_none {iv : Ivl} {p : Pg} (h : p.es = []) : goB iv p = true := by unfold goB; rw [h]; simp
theorem goB_some {iv : Ivl} {p : Pg} (h : 0 < p.es.length) : goB iv p = (iv.op || Op.bytesLess (p.es[0]'h).key.toList iv.hi.toList) := by
  unfold goB
  match p, h with
  | ⟨n, a :: t⟩, _ => rfl
def loP (f : List Pg) (iv : Ivl) : Nat := place f ⟨iv.lo, -1⟩
def overP (f : List Pg) (iv : Ivl) : List Pg := (f.drop (loP f iv)).take 1 ++ (f.drop (loP f iv + 1)).takeWhile (goB iv)
def entsOf (iv : Ivl) (ps : List Pg) : List Ent := (ps.flatMap fun p => p.es).filter fun e => hasI iv e.key
def numsOf (ps : List Pg) : List Int := ps.map fun p => p.num
def intsV (l : List Int) : List Value := l.map (Value.int .i64)
theorem entsOf_app (iv : Ivl) (a b : List Pg) : entsOf iv (a ++ b) = entsOf iv a ++ entsOf iv b := by unfold entsOf; simp
theorem numsOf_app (a b : List Pg) : numsOf (a ++ b) = numsOf a ++ numsOf b := by unfold numsOf; simp
theorem entsOf_one (iv : Ivl) (p : Pg) : entsOf iv [p] = p.es.filter fun e => hasI iv e.key := by unfold entsOf; simp
theorem numsOf_one (p : Pg) : numsOf [p] = [p.num] := rfl
theorem intsV_app (a b : List Int) : intsV (a ++ b) = intsV a ++ intsV b := by unfold intsV; simp
/-- Pages that were walked, and the pages that are still to be. -/
theorem over_step (iv : Ivl) (f : List Pg) (k : Nat) (h : k < f.length) : (f.drop k).takeWhile (goB iv) = if goB iv f[k] = true then f[k] :: (f.drop (k + 1)).takeWhile (goB iv) else [] := by
  rw [drop_cons f k h, List.takeWhile_cons]
theorem owns_types {w : World} {b1 b2 : Nat} {e1 e2 : TypeId} {s1 s2 n1 n2 : Nat} {v1 v2 : Value} {xs1 xs2 : List Value} (h1 : w.ownsRow b1 e1 s1 v1 n1 xs1) (h2 : w.ownsRow b2 e2 s2 v2 n2 xs2) (hne : e1 ≠ e2) : v1.ownBlock = none ∨ v1.ownBlock ≠ v2.ownBlock := by
  obtain ⟨_, h1⟩ := h1
  obtain ⟨_, h2⟩ := h2
  rcases h1 with ⟨rfl, _⟩ | ⟨g, cap, cur, rfl, _, hh, _⟩
  · exact .inl rfl
  · rcases h2 with ⟨rfl, _⟩ | ⟨g2, cap2, cur2, rfl, _, hh2, _⟩
    · exact .inr (by simp [Value.ownBlock])
    · refine .inr (fun e => ?_)
      have e' : g = g2 := by simpa [Value.ownBlock] using e
      subst e'
      rw [hh] at hh2
      injection hh2 with hh2
      injection hh2 with _ hh2 _
      exact hne hh2
theorem tne : (40 : TypeId) ≠ 3 := by decide
theorem tne' : (3 : TypeId) ≠ 40 := by decide

/-- A tree and an interval in the first two new blocks. -/
structure BoxTI (w W : World) (v : Value) (next : Int) (iv : Ivl) : Prop where
  bel : Below w.heap.size w W
  lt : w.heap.size + 1 < W.heap.size
  c0 : W.cell? ⟨w.heap.size, 0, none⟩ = some v
  c1 : W.cell? ⟨w.heap.size, 1, none⟩ = some (.int .i64 next)
  d0 : W.cell? ⟨w.heap.size + 1, 0, none⟩ = some (.string iv.lo)
  d1 : W.cell? ⟨w.heap.size + 1, 1, none⟩ = some (.string iv.hi)
  d2 : W.cell? ⟨w.heap.size + 1, 2, none⟩ = some (.bool iv.op)
theorem BoxTI.start (w : World) (v : Value) (next : Int) (iv : Ivl) (T U : TypeId) : BoxTI w ((w.alloc (.cells #[v, .int .i64 next] T)).alloc (.cells #[.string iv.lo, .string iv.hi, .bool iv.op] U)) v next iv :=
  ⟨((Below.refl _ _).alloc (Nat.le_refl _) _).alloc (by simp) _, by simp, by simp [go_sem], by simp [go_sem], by simp [go_sem], by simp [go_sem], by simp [go_sem]⟩
theorem BoxTI.step {w W W' : World} {v : Value} {next : Int} {iv : Ivl} (h : BoxTI w W v next iv) (hb : Below W.heap.size W W') : BoxTI w W' v next iv :=
  have hl : w.heap.size < W.heap.size := Nat.lt_of_succ_lt h.lt
  ⟨h.bel.trans (hb.mono h.bel.size), Nat.lt_of_lt_of_le h.lt hb.size, (hb.cell hl).trans h.c0, (hb.cell hl).trans h.c1, (hb.cell h.lt).trans h.d0, (hb.cell h.lt).trans h.d1, (hb.cell h.lt).trans h.d2⟩
/-- The same while rows that were made behind them grow. -/
theorem BoxTI.belowStep {w W W' : World} {v : Value} {next : Int} {iv : Ivl} {B : Nat} (h : BoxTI w W v next iv) (hb : Below B W W') (hB : w.heap.size + 2 ≤ B) : BoxTI w W' v next iv :=
  ⟨h.bel.trans (hb.mono (by omega)), Nat.lt_of_lt_of_le h.lt hb.size, (hb.cell (by simp; omega)).trans h.c0, (hb.cell (by simp; omega)).trans h.c1, (hb.cell (by simp; omega)).trans h.d0, (hb.cell (by simp; omega)).trans h.d1, (hb.cell (by simp; omega)).trans h.d2⟩

theorem take_one (f : List Pg) (k : Nat) (h : k < f.length) : (f.drop k).take 1 = [f[k]] := by rw [drop_cons f k h]; rfl
/-- The filter of the first j of a page's entries. -/
def filt (iv : Ivl) (l : List Ent) (j : Nat) : List Ent := (l.take j).filter fun e => hasI iv e.key
theorem filt_yes (iv : Ivl) (l : List Ent) (j : Nat) (h : j < l.length) (hh : hasI iv l[j].key = true) : filt iv l (j + 1) = filt iv l j ++ [l[j]] := by
  unfold filt; rw [List.take_succ_eq_append_getElem h, List.filter_append]; simp [hh]
theorem filt_no (iv : Ivl) (l : List Ent) (j : Nat) (h : j < l.length) (hh : hasI iv l[j].key = false) : filt iv l (j + 1) = filt iv l j := by
  unfold filt; rw [List.take_succ_eq_append_getElem h, List.filter_append]; simp [hh]
theorem filt_all (iv : Ivl) (l : List Ent) (j : Nat) (h : l.length ≤ j) : filt iv l j = l.filter fun e => hasI iv e.key := by unfold filt; rw [List.take_of_length_le h]
theorem filt_len (iv : Ivl) (l : List Ent) (j : Nat) : (filt iv l j).length ≤ j := by
  unfold filt; exact Nat.le_trans (List.length_filter_le _ _) (by rw [List.length_take]; omega)
theorem entsOf_len (iv : Ivl) : ∀ (ps : List Pg), (∀ p ∈ ps, p.es.length ≤ 4) → (entsOf iv ps).length ≤ 4 * ps.length
  | [], _ => by simp [entsOf]
  | p :: t, h => by
    have e : p :: t = [p] ++ t := rfl
    rw [e, entsOf_app, entsOf_one, List.length_append, List.length_append]
    have h1 := entsOf_len iv t (fun q hq => h q (List.mem_cons_of_mem _ hq))
    have h2 := h p (List.mem_cons_self ..)
    have h3 := List.length_filter_le (fun e : Ent => hasI iv e.key) p.es
    simp only [List.length_cons, List.length_nil]; omega

end Go.Proofs.Ytnmpfooegnmknaa.Tr
