/- A region of open order whose last operation waits for all others: the others alone are walked, and the last behind them. -/
import Derived.Test.YtkafanjfjplakaaGreatDoorInsP
import Derived.StillTail
import Derived.Deep.RegionHeld3
namespace Go.Proofs.YtkafanjfjplakaaGreatDoor.Co
open Go.RowKit Tr
set_option linter.unusedVariables false

section
variable {P : Program} {md : Region.Mode} {Q : Exit → Act → World → Prop}
/-- The post of the others: behind them the last operation is run. -/
def LastQ (P : Program) (ops : Array Oper) (Q : Exit → Act → World → Prop) (n : Nat) : Exit → Act → World → Prop
  | .normal, a, w => wpOp P ops Q n (Q .normal) a w
  | e, a, w => Q e a w
/-- No operation has a guard, each waits for earlier ones alone, and the last waits for all. -/
def lastB (md : Region.Mode) (ops : Array Oper) (n : Nat) : Bool :=
  (List.range ops.size).all (fun j => match ops[j]? with
    | some o => o.guard.isNone && o.after.all (fun e => decide (e.on < j))
    | none => true) && Region.sinkB md ops n && Region.chainB md ops n
theorem lastB_at {ops : Array Oper} {n j : Nat} {o : Oper} (h : lastB md ops n = true) (hj : ops[j]? = some o) : o.guard = none ∧ ∀ e ∈ o.after, e.on < j := by
  simp only [lastB, Bool.and_eq_true] at h
  have h1 := List.all_eq_true.1 h.1.1 j (List.mem_range.2 (Array.getElem?_eq_some_iff.1 hj).1)
  simp only [hj, Bool.and_eq_true, Array.all_eq_true_iff_forall_mem, decide_eq_true_eq] at h1
  exact ⟨Option.isNone_iff_eq_none.1 h1.1, h1.2⟩
theorem wp_last {ops : Array Oper} {n : Nat} {o : Oper} {a : Act} {w : World} {K : Act → World → Prop} (h : o.wp P a w K (LastQ P ops Q n)) : o.wp P a w K Q := by
  unfold Oper.wp at *
  generalize (execOp a.eval o).run P w = r at *
  cases r with
  | ok x w' =>
    cases x <;> simp only [Oper.upon] at h ⊢ <;>
      first
        | exact h
        | exact Calls.mono h (fun e w'' he => by cases e <;> exact he)
  | halt x w' => cases x <;> simp only [Oper.upon] at h ⊢ <;> exact h
theorem wanted_none {o : Oper} (h : o.guard = none) (y : Nat → Option Bool) : Region.wanted o y = true := by
  unfold Region.wanted; rw [h]
theorem push_getD {listed : Array Bool} {j : Nat} : (listed.push false).getD j false = listed.getD j false := by
  rcases Nat.lt_trichotomy j listed.size with h | h | h
  · simp [Array.getElem?_push, h, Nat.ne_of_lt h]
  · subst h; simp
  · simp [Array.getElem?_push, Nat.ne_of_gt h, Array.getElem?_eq_none (Nat.le_of_lt h)]
theorem push_getD_lt {listed : Array Bool} {j : Nat} (h : j < listed.size) : (listed.push false).getD j true = listed.getD j true := by
  simp [Array.getElem?_push, h, Nat.ne_of_lt h]
theorem wpAny_last {pre ops : Array Oper} {o : Oper} {n : Nat} (hops : ops = pre.push o) (hn : pre.size = n) (hB : lastB md ops n = true) :
    ∀ (fuel : Nat) (listed : Array Bool) (a : Act) (w : World), listed.size = n → HeadInv md ops n (listed.push false) →
      wpAny P md pre (LastQ P ops Q n) fuel listed a w → wpAny P md ops Q (fuel + 1) (listed.push false) a w := by
  have hsz : ops.size = n + 1 := by rw [hops]; simp [hn]
  have hlt : ∀ j, j < n → ops[j]? = pre[j]? := fun j hj => by
    rw [hops, Array.getElem?_push, if_neg (by omega)]
  have hno : ops[n]? = some o := by rw [hops, Array.getElem?_push, if_pos hn.symm]
  have hsc : Region.sinkB md ops n = true ∧ Region.chainB md ops n = true := by
    simp only [lastB, Bool.and_eq_true] at hB; exact ⟨hB.1.2, hB.2⟩
  have hrd : ∀ (listed : Array Bool) (j : Nat), listed.size = n → j < n → (j ∈ Region.ready md ops (listed.push false) ↔ j ∈ Region.ready md pre listed) := fun listed j hl hj => by
    rw [mem_ready, mem_ready, push_getD_lt (by omega), hlt j hj]
    simp only [push_getD]
  have hdone : ∀ (listed : Array Bool), listed.size = n → Region.ready md pre listed = [] → ∀ j, j < n → listed.getD j false = true := fun listed hl he j => by
    induction j using Nat.strongRecOn with
    | _ j ih =>
      intro hj
      cases hg : listed.getD j false with
      | true => rfl
      | false =>
        exfalso
        have hp : j < pre.size := by omega
        have hoj : pre[j]? = some pre[j] := Array.getElem?_eq_getElem hp
        have : j ∈ Region.ready md pre listed := mem_ready.2 ⟨getD_in (by omega) hg, pre[j], hoj, fun e he _ => by
          have hlt' := (lastB_at hB ((hlt j hj).trans hoj)).2 e he
          exact ih e.on hlt' (by omega)⟩
        rw [he] at this; cases this
  have hcase : ∀ (fuel : Nat) (listed : Array Bool) (a : Act) (w : World), listed.size = n → Region.ready md pre listed = [] → LastQ P ops Q n .normal a w →
      wpAny P md ops Q (fuel + 1) (listed.push false) a w := fun fuel listed a w hl he hq => by
    have hall := hdone listed hl he
    have hnr : n ∈ Region.ready md ops (listed.push false) := mem_ready.2 ⟨by subst hl; simp, o, hno, fun e hm _ => by
      rw [push_getD]; exact hall _ ((lastB_at hB hno).2 e hm)⟩
    refine ⟨fun h => (by rw [h] at hnr; cases hnr), fun i hi => ?_⟩
    have hin : i = n := by
      obtain ⟨hu, oi, hoi, _⟩ := mem_ready.1 hi
      have := (Array.getElem?_eq_some_iff.1 hoi).1
      rcases Nat.lt_or_ge i n with h | h
      · rw [hrd listed i hl h, he] at hi; cases hi
      · omega
    subst hin
    refine wpOp_mono (fun a' w' h => wpAny_done ?_ h _) hq
    refine List.eq_nil_iff_forall_not_mem.2 fun j hj => ?_
    obtain ⟨hu, oj, hoj, _⟩ := mem_ready.1 hj
    have hjs := (Array.getElem?_eq_some_iff.1 hoj).1
    by_cases hji : i = j
    · subst hji
      simp [hl] at hu
    · rw [getD_set_ne true hji] at hu
      have h1 := hall j (by omega)
      rw [push_getD_lt (by omega)] at hu
      rw [getD_both hu] at h1; cases h1
  intro fuel
  induction fuel with
  | zero => intro listed a w hl _ h; exact hcase 0 listed a w hl h.1 h.2
  | succ fuel ih =>
    intro listed a w hl inv h
    by_cases he : Region.ready md pre listed = []
    · exact hcase _ listed a w hl he (h.1 he)
    · obtain ⟨j, hj⟩ := List.exists_mem_of_ne_nil _ he
      obtain ⟨hju, oj, hoj, _⟩ := mem_ready.1 hj
      have hjn : j < n := by have := (Array.getElem?_eq_some_iff.1 hoj).1; omega
      refine ⟨fun h0 => (by have := (hrd listed j hl hjn).2 hj; rw [h0] at this; cases this), fun i hi => ?_⟩
      have hin : i < n := by
        rcases Nat.lt_or_ge i n with h' | h'
        · exact h'
        · exact absurd hi (tail_waits hsc.1 hsc.2 (by omega) inv _ j rfl hjn (by rw [push_getD_lt (by omega)]; exact hju) i h')
      have h1 := h.2 i ((hrd listed i hl hin).1 hi)
      have inv' := inv.set hi hin
      have hset : (listed.push false).setIfInBounds i true = (listed.setIfInBounds i true).push false := by
        apply Array.ext_getElem?
        intro q
        simp only [Array.getElem?_setIfInBounds, Array.getElem?_push, Array.size_setIfInBounds, Array.size_push]
        by_cases hq : i = q
        · subst hq; simp [hl, hin, Nat.ne_of_lt hin]; omega
        · simp [hq]
      rw [hset] at inv' ⊢
      obtain ⟨oi, hoi⟩ : ∃ oi, pre[i]? = some oi := ⟨_, Array.getElem?_eq_getElem (by omega)⟩
      have hgu := (lastB_at hB ((hlt i hin).trans hoi)).1
      refine wpOp_mono (fun a' w' h' => ih (listed.setIfInBounds i true) a' w' (by simp [hl]) inv' h') ?_
      unfold wpOp at h1 ⊢
      rw [hlt i hin, hoi]
      simp only [hoi, wanted_none hgu, if_true] at h1 ⊢
      rcases h1 with h1 | ⟨hk, x, y, ho⟩
      · exact .inl (wp_last h1)
      · exact .inr ⟨hk, x, y, ho⟩
/-- The beginning. -/
theorem wp_region_last {id : Nat} {l : List Oper} {o : Oper} {a : Act} {w : World} {S : World → Prop} (hm : P.follows .mixedOrders = true) (hB : lastB .any (l ++ [o]).toArray l.length = true) (hS : S w.drew)
    (h : S w.drew → wpAnyH P .any l.toArray (LastQ P (l ++ [o]).toArray Q l.length) S l.length (Array.replicate l.length false) a w.drew) : (Code.region id (l ++ [o]).toArray true).wp P Q a w := by
  refine wp_region_any hm ?_
  have h1 := wpAny_last (P := P) (Q := Q) (pre := l.toArray) (ops := (l ++ [o]).toArray) (o := o) (by simp) (by simp) hB l.length (Array.replicate l.length false) a w.drew (by simp)
    ⟨by simp, fun j oj _ hl => (by rw [push_getD, getD_replicate_false] at hl; cases hl), fun t _ ht => getD_in (by simpa using ht) (by rw [push_getD]; exact getD_replicate_false _ _)⟩ (wpAny_of_held _ _ _ _ (h hS))
  have e : (Array.replicate l.length false).push false = Array.replicate (l ++ [o]).toArray.size false := by
    simp [Array.replicate_succ]
  rw [e] at h1
  have e2 : (l ++ [o]).toArray.size = l.length + 1 := by simp
  rw [e2] at h1 ⊢
  exact h1
theorem take_split {ls : List Oper} {n : Nat} {o : Oper} (h : ls.length = n + 1) (ho : ls[n]? = some o) : ls = ls.take n ++ [o] := by
  have h1 : n < ls.length := by omega
  rw [List.getElem?_eq_getElem h1] at ho
  have e := List.take_append_drop n ls
  rw [List.drop_eq_getElem_cons h1, List.drop_eq_nil_of_le (by omega), Option.some.inj ho] at e
  exact e.symm
/-- The beginning, of a region that is written out. -/
theorem wp_region_last2 {id : Nat} {ls : List Oper} {a : Act} {w : World} {S : World → Prop} (n : Nat) (hm : P.follows .mixedOrders = true) (hn : ls.length = n + 1) (hB : lastB .any ls.toArray n = true) (hS : S w.drew)
    (h : S w.drew → wpAnyH P .any (ls.take n).toArray (LastQ P ls.toArray Q n) S n (Array.replicate n false) a w.drew) : (Code.region id ls.toArray true).wp P Q a w := by
  have h1 : n < ls.length := by omega
  have e := take_split hn (List.getElem?_eq_getElem h1)
  have hl : (ls.take n).length = n := by rw [List.length_take]; omega
  have k := wp_region_last (P := P) (Q := Q) (id := id) (l := ls.take n) (o := ls[n]) (a := a) (w := w) (S := S) hm (by rw [hl, ← e]; exact hB) hS (by rw [hl, ← e]; exact h)
  rw [← e] at k
  exact k
/-- Operation number i of a list. -/
def OpAt : List Oper → Nat → Oper → Prop
  | [], _, _ => False
  | x :: _, 0, o => x = o
  | _ :: l, n + 1, o => OpAt l n o
theorem OpAt.zero {o : Oper} {l : List Oper} : OpAt (o :: l) 0 o := rfl
theorem OpAt.succ {o x : Oper} {l : List Oper} {n : Nat} (h : OpAt l n o) : OpAt (x :: l) (n + 1) o := h
theorem OpAt.get : ∀ {l : List Oper} {i : Nat} {o : Oper}, OpAt l i o → l.toArray[i]? = some o
  | [], _, _, h => h.elim
  | x :: l, 0, o, h => by rw [List.getElem?_toArray, List.getElem?_cons_zero]; exact congrArg some h
  | x :: l, n + 1, o, h => by
    have k := OpAt.get (l := l) (i := n) (o := o) h
    rw [List.getElem?_toArray] at k ⊢
    rw [List.getElem?_cons_succ]; exact k
theorem take_at {ls : List Oper} {S : World → Prop} {i : Nat} {oi : Oper} {v : Value} {fuel : Nat} {listed : Array Bool} {a : Act} {w : World} (hi : OpAt ls i oi)
    (hs : Region.noSelect ls.toArray = true) (hf : Region.free md ls.toArray listed i = true) (hr : (Region.ready md ls.toArray listed).contains i = true)
    (hQ : ∀ c a w, Q (.panic c) (a.put oi.dst v) w → Q (.panic c) a w) (hy : YieldsIf P ls.toArray S oi v a) (hS : S w)
    (h : wpAnyH P md ls.toArray Q S fuel (listed.setIfInBounds i true) (a.put oi.dst v) w) : wpAnyH P md ls.toArray Q S (fuel + 1) listed a w :=
  wpAnyH_take hi.get hs hf hr hQ hy hS h
theorem cons_at {ls : List Oper} {S : World → Prop} {fuel : Nat} {listed : Array Bool} {a : Act} {w : World} {i : Nat} {o : Oper} {rs : List Nat} (ho : OpAt ls i o)
    (h : ∀ K' : Act → World → Prop, Shut (∀ a w, S w → (S w → wpAnyH P md ls.toArray Q S fuel (listed.setIfInBounds i true) a w) → K' a w) → if Region.wanted o (yielded ls.toArray a.tmps) = true then Oper.wp P o a w K' Q else K' (a.put o.dst undef) w)
    (hs : AllReadyH P md ls.toArray Q S fuel listed a w rs) : AllReadyH P md ls.toArray Q S fuel listed a w (i :: rs) := AllReadyH.cons ho.get h hs
theorem last_at {ls : List Oper} {n : Nat} {o : Oper} {a : Act} {w : World} (ho : OpAt ls n o)
    (h : ∀ K' : Act → World → Prop, Shut (∀ a w, Q .normal a w → K' a w) → if Region.wanted o (yielded ls.toArray a.tmps) = true then Oper.wp P o a w K' Q else K' (a.put o.dst undef) w) : LastQ P ls.toArray Q n .normal a w :=
  wpOp_step ho.get h
end
end Go.Proofs.YtkafanjfjplakaaGreatDoor.Co
