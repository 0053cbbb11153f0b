/- A region of open order whose last operation waits for all others: the others alone are walked, and the last behind them. -/
import Derived.StillTail
import Derived.Deep.RegionHeld3
import Derived.ProofKit
import Derived.Test.YtdchhjnmhnehiaaGreatDoorDrawBQ
import Derived.Test.YtdchhjnmhnehiaaGreatDoorKeyOQ
import Derived.Test.YtdchhjnmhnehiaaGreatDoorRowTQ
import Derived.Deep.AppendSrc
import Derived.Below
import Derived.Test.YtdchhjnmhnehiaaGreatDoorTrMQ
import Derived.Test.YtdchhjnmhnehiaaGreatDoorDkyMQ
import Derived.Test.YtdchhjnmhnehiaaGreatDoorFilMQ
import Derived.Test.YtdchhjnmhnehiaaGreatDoorIvlHQ
import Derived.BigQuiet
import Derived.Test.YtdchhjnmhnehiaaGreatDoorLawB
import Derived.Test.YtdchhjnmhnehiaaGreatDoorRows
import Derived.Test.YtdchhjnmhnehiaaGreatDoorTie
import Derived.Test.YtdchhjnmhnehiaaGreatDoorCards
import Derived.LaidMore
import Derived.Lay
import Derived.Stop.Joined
import Derived.SevenTiedAt
import Derived.OpenShut
import Derived.ShutString
import Derived.ChangeOld
import Derived.Lib.SmallJoins
namespace Go.Proofs.YtdchhjnmhnehiaaGreatDoor.Lg
open Go.RowKit
set_option linter.unusedVariables false

section
variable {P : Program} {md : Region.Mode} {Q : Exit → Act → World → Prop}
/-- The post of the others: behind them the last operation is run. -/
def LastQ (P : Program) (ops : Array Oper) (Q : Exit → Act → World → Prop) (n : Nat) : Exit → Act → World → Prop
  | .normal, a, w => wpOp P ops Q n (Q .normal) a w
  | e, a, w => Q e a w
/-- No operation has a guard, each waits for earlier ones alone, and the last waits for all. -/
def lastB (md : Region.Mode) (ops : Array Oper) (n : Nat) : Bool :=
  (List.range ops.size).all (fun j => match ops[j]? with
    | some o => o.guard.isNone && o.after.all (fun e => decide (e.on < j))
    | none => true) && Region.sinkB md ops n && Region.chainB md ops n
theorem lastB_at {ops : Array Oper} {n j : Nat} {o : Oper} (h : lastB md ops n = true) (hj : ops[j]? = some o) : o.guard = none ∧ ∀ e ∈ o.after, e.on < j := by
  simp only [lastB, Bool.and_eq_true] at h
  have h1 := List.all_eq_true.1 h.1.1 j (List.mem_range.2 (Array.getElem?_eq_some_iff.1 hj).1)
  simp only [hj, Bool.and_eq_true, Array.all_eq_true_iff_forall_mem, decide_eq_true_eq] at h1
  exact ⟨Option.isNone_iff_eq_none.1 h1.1, h1.2⟩
theorem wp_last {ops : Array Oper} {n : Nat} {o : Oper} {a : Act} {w : World} {K : Act → World → Prop} (h : o.wp P a w K (LastQ P ops Q n)) : o.wp P a w K Q := by
  unfold Oper.wp at *
  generalize (execOp a.eval o).run P w = r at *
  cases r with
  | ok x w' =>
    cases x <;> simp only [Oper.upon] at h ⊢ <;>
      first
        | exact h
        | exact Calls.mono h (fun e w'' he => by cases e <;> exact he)
  | halt x w' => cases x <;> simp only [Oper.upon] at h ⊢ <;> exact h
theorem wanted_none {o : Oper} (h : o.guard = none) (y : Nat → Option Bool) : Region.wanted o y = true := by
  unfold Region.wanted; rw [h]
theorem push_getD {listed : Array Bool} {j : Nat} : (listed.push false).getD j false = listed.getD j false := by
  rcases Nat.lt_trichotomy j listed.size with h | h | h
  · simp [Array.getElem?_push, h, Nat.ne_of_lt h]
  · subst h; simp
  · simp [Array.getElem?_push, Nat.ne_of_gt h, Array.getElem?_eq_none (Nat.le_of_lt h)]
theorem push_getD_lt {listed : Array Bool} {j : Nat} (h : j < listed.size) : (listed.push false).getD j true = listed.getD j true := by
  simp [Array.getElem?_push, h, Nat.ne_of_lt h]
theorem wpAny_last {pre ops : Array Oper} {o : Oper} {n : Nat} (hops : ops = pre.push o) (hn : pre.size = n) (hB : lastB md ops n = true) :
    ∀ (fuel : Nat) (listed : Array Bool) (a : Act) (w : World), listed.size = n → HeadInv md ops n (listed.push false) →
      wpAny P md pre (LastQ P ops Q n) fuel listed a w → wpAny P md ops Q (fuel + 1) (listed.push false) a w := by
  have hsz : ops.size = n + 1 := by rw [hops]; simp [hn]
  have hlt : ∀ j, j < n → ops[j]? = pre[j]? := fun j hj => by
    rw [hops, Array.getElem?_push, if_neg (by omega)]
  have hno : ops[n]? = some o := by rw [hops, Array.getElem?_push, if_pos hn.symm]
  have hsc : Region.sinkB md ops n = true ∧ Region.chainB md ops n = true := by
    simp only [lastB, Bool.and_eq_true] at hB; exact ⟨hB.1.2, hB.2⟩
  have hrd : ∀ (listed : Array Bool) (j : Nat), listed.size = n → j < n → (j ∈ Region.ready md ops (listed.push false) ↔ j ∈ Region.ready md pre listed) := fun listed j hl hj => by
    rw [mem_ready, mem_ready, push_getD_lt (by omega), hlt j hj]
    simp only [push_getD]
  have hdone : ∀ (listed : Array Bool), listed.size = n → Region.ready md pre listed = [] → ∀ j, j < n → listed.getD j false = true := fun listed hl he j => by
    induction j using Nat.strongRecOn with
    | _ j ih =>
      intro hj
      cases hg : listed.getD j false with
      | true => rfl
      | false =>
        exfalso
        have hp : j < pre.size := by omega
        have hoj : pre[j]? = some pre[j] := Array.getElem?_eq_getElem hp
        have : j ∈ Region.ready md pre listed := mem_ready.2 ⟨getD_in (by omega) hg, pre[j], hoj, fun e he _ => by
          have hlt' := (lastB_at hB ((hlt j hj).trans hoj)).2 e he
          exact ih e.on hlt' (by omega)⟩
        rw [he] at this; cases this
  have hcase : ∀ (fuel : Nat) (listed : Array Bool) (a : Act) (w : World), listed.size = n → Region.ready md pre listed = [] → LastQ P ops Q n .normal a w →
      wpAny P md ops Q (fuel + 1) (listed.push false) a w := fun fuel listed a w hl he hq => by
    have hall := hdone listed hl he
    have hnr : n ∈ Region.ready md ops (listed.push false) := mem_ready.2 ⟨by subst hl; simp, o, hno, fun e hm _ => by
      rw [push_getD]; exact hall _ ((lastB_at hB hno).2 e hm)⟩
    refine ⟨fun h => (by rw [h] at hnr; cases hnr), fun i hi => ?_⟩
    have hin : i = n := by
      obtain ⟨hu, oi, hoi, _⟩ := mem_ready.1 hi
      have := (Array.getElem?_eq_some_iff.1 hoi).1
      rcases Nat.lt_or_ge i n with h | h
      · rw [hrd listed i hl h, he] at hi; cases hi
      · omega
    subst hin
    refine wpOp_mono (fun a' w' h => wpAny_done ?_ h _) hq
    refine List.eq_nil_iff_forall_not_mem.2 fun j hj => ?_
    obtain ⟨hu, oj, hoj, _⟩ := mem_ready.1 hj
    have hjs := (Array.getElem?_eq_some_iff.1 hoj).1
    by_cases hji : i = j
    · subst hji
      simp [hl] at hu
    · rw [getD_set_ne true hji] at hu
      have h1 := hall j (by omega)
      rw [push_getD_lt (by omega)] at hu
      rw [getD_both hu] at h1; cases h1
  intro fuel
  induction fuel with
  | zero => intro listed a w hl _ h; exact hcase 0 listed a w hl h.1 h.2
  | succ fuel ih =>
    intro listed a w hl inv h
    by_cases he : Region.ready md pre listed = []
    · exact hcase _ listed a w hl he (h.1 he)
    · obtain ⟨j, hj⟩ := List.exists_mem_of_ne_nil _ he
      obtain ⟨hju, oj, hoj, _⟩ := mem_ready.1 hj
      have hjn : j < n := by have := (Array.getElem?_eq_some_iff.1 hoj).1; omega
      refine ⟨fun h0 => (by have := (hrd listed j hl hjn).2 hj; rw [h0] at this; cases this), fun i hi => ?_⟩
      have hin : i < n := by
        rcases Nat.lt_or_ge i n with h' | h'
        · exact h'
        · exact absurd hi (tail_waits hsc.1 hsc.2 (by omega) inv _ j rfl hjn (by rw [push_getD_lt (by omega)]; exact hju) i h')
      have h1 := h.2 i ((hrd listed i hl hin).1 hi)
      have inv' := inv.set hi hin
      have hset : (listed.push false).setIfInBounds i true = (listed.setIfInBounds i true).push false := by
        apply Array.ext_getElem?
        intro q
        simp only [Array.getElem?_setIfInBounds, Array.getElem?_push, Array.size_setIfInBounds, Array.size_push]
        by_cases hq : i = q
        · subst hq; simp [hl, hin, Nat.ne_of_lt hin]; omega
        · simp [hq]
      rw [hset] at inv' ⊢
      obtain ⟨oi, hoi⟩ : ∃ oi, pre[i]? = some oi := ⟨_, Array.getElem?_eq_getElem (by omega)⟩
      have hgu := (lastB_at hB ((hlt i hin).trans hoi)).1
      refine wpOp_mono (fun a' w' h' => ih (listed.setIfInBounds i true) a' w' (by simp [hl]) inv' h') ?_
      unfold wpOp at h1 ⊢
      rw [hlt i hin, hoi]
      simp only [hoi, wanted_none hgu, if_true] at h1 ⊢
      rcases h1 with h1 | ⟨hk, x, y, ho⟩
      · exact .inl (wp_last h1)
      · exact .inr ⟨hk, x, y, ho⟩
/-- The beginning. -/
theorem wp_region_last {id : Nat} {l : List Oper} {o : Oper} {a : Act} {w : World} {S : World → Prop} (hm : P.follows .mixedOrders = true) (hB : lastB .any (l ++ [o]).toArray l.length = true) (hS : S w.drew)
    (h : S w.drew → wpAnyH P .any l.toArray (LastQ P (l ++ [o]).toArray Q l.length) S l.length (Array.replicate l.length false) a w.drew) : (Code.region id (l ++ [o]).toArray true).wp P Q a w := by
  refine wp_region_any hm ?_
  have h1 := wpAny_last (P := P) (Q := Q) (pre := l.toArray) (ops := (l ++ [o]).toArray) (o := o) (by simp) (by simp) hB l.length (Array.replicate l.length false) a w.drew (by simp)
    ⟨by simp, fun j oj _ hl => (by rw [push_getD, getD_replicate_false] at hl; cases hl), fun t _ ht => getD_in (by simpa using ht) (by rw [push_getD]; exact getD_replicate_false _ _)⟩ (wpAny_of_held _ _ _ _ (h hS))
  have e : (Array.replicate l.length false).push false = Array.replicate (l ++ [o]).toArray.size false := by
    simp [Array.replicate_succ]
  rw [e] at h1
  have e2 : (l ++ [o]).toArray.size = l.length + 1 := by simp
  rw [e2] at h1 ⊢
  exact h1
theorem take_split {ls : List Oper} {n : Nat} {o : Oper} (h : ls.length = n + 1) (ho : ls[n]? = some o) : ls = ls.take n ++ [o] := by
  have h1 : n < ls.length := by omega
  rw [List.getElem?_eq_getElem h1] at ho
  have e := List.take_append_drop n ls
  rw [List.drop_eq_getElem_cons h1, List.drop_eq_nil_of_le (by omega), Option.some.inj ho] at e
  exact e.symm
/-- The beginning, of a region that is written out. -/
theorem wp_region_last2 {id : Nat} {ls : List Oper} {a : Act} {w : World} {S : World → Prop} (n : Nat) (hm : P.follows .mixedOrders = true) (hn : ls.length = n + 1) (hB : lastB .any ls.toArray n = true) (hS : S w.drew)
    (h : S w.drew → wpAnyH P .any (ls.take n).toArray (LastQ P ls.toArray Q n) S n (Array.replicate n false) a w.drew) : (Code.region id ls.toArray true).wp P Q a w := by
  have h1 : n < ls.length := by omega
  have e := take_split hn (List.getElem?_eq_getElem h1)
  have hl : (ls.take n).length = n := by rw [List.length_take]; omega
  have k := wp_region_last (P := P) (Q := Q) (id := id) (l := ls.take n) (o := ls[n]) (a := a) (w := w) (S := S) hm (by rw [hl, ← e]; exact hB) hS (by rw [hl, ← e]; exact h)
  rw [← e] at k
  exact k
/-- Operation number i of a list. -/
def OpAt : List Oper → Nat → Oper → Prop
  | [], _, _ => False
  | x :: _, 0, o => x = o
  | _ :: l, n + 1, o => OpAt l n o
theorem OpAt.zero {o : Oper} {l : List Oper} : OpAt (o :: l) 0 o := rfl
theorem OpAt.succ {o x : Oper} {l : List Oper} {n : Nat} (h : OpAt l n o) : OpAt (x :: l) (n + 1) o := h
theorem OpAt.get : ∀ {l : List Oper} {i : Nat} {o : Oper}, OpAt l i o → l.toArray[i]? = some o
  | [], _, _, h => h.elim
  | x :: l, 0, o, h => by rw [List.getElem?_toArray, List.getElem?_cons_zero]; exact congrArg some h
  | x :: l, n + 1, o, h => by
    have k := OpAt.get (l := l) (i := n) (o := o) h
    rw [List.getElem?_toArray] at k ⊢
    rw [List.getElem?_cons_succ]; exact k
theorem take_at {ls : List Oper} {S : World → Prop} {i : Nat} {oi : Oper} {v : Value} {fuel : Nat} {listed : Array Bool} {a : Act} {w : World} (hi : OpAt ls i oi)
    (hs : Region.noSelect ls.toArray = true) (hf : Region.free md ls.toArray listed i = true) (hr : (Region.ready md ls.toArray listed).contains i = true)
    (hQ : ∀ c a w, Q (.panic c) (a.put oi.dst v) w → Q (.panic c) a w) (hy : YieldsIf P ls.toArray S oi v a) (hS : S w)
    (h : wpAnyH P md ls.toArray Q S fuel (listed.setIfInBounds i true) (a.put oi.dst v) w) : wpAnyH P md ls.toArray Q S (fuel + 1) listed a w :=
  wpAnyH_take hi.get hs hf hr hQ hy hS h
theorem cons_at {ls : List Oper} {S : World → Prop} {fuel : Nat} {listed : Array Bool} {a : Act} {w : World} {i : Nat} {o : Oper} {rs : List Nat} (ho : OpAt ls i o)
    (h : ∀ K' : Act → World → Prop, Shut (∀ a w, S w → (S w → wpAnyH P md ls.toArray Q S fuel (listed.setIfInBounds i true) a w) → K' a w) → if Region.wanted o (yielded ls.toArray a.tmps) = true then Oper.wp P o a w K' Q else K' (a.put o.dst undef) w)
    (hs : AllReadyH P md ls.toArray Q S fuel listed a w rs) : AllReadyH P md ls.toArray Q S fuel listed a w (i :: rs) := AllReadyH.cons ho.get h hs
theorem last_at {ls : List Oper} {n : Nat} {o : Oper} {a : Act} {w : World} (ho : OpAt ls n o)
    (h : ∀ K' : Act → World → Prop, Shut (∀ a w, Q .normal a w → K' a w) → if Region.wanted o (yielded ls.toArray a.tmps) = true then Oper.wp P o a w K' Q else K' (a.put o.dst undef) w) : LastQ P ls.toArray Q n .normal a w :=
  wpOp_step ho.get h
end
end Go.Proofs.YtdchhjnmhnehiaaGreatDoor.Lg

/- A drawn filter: its clauses' rows, and that it is a right one. -/
namespace Go.Proofs.YtdchhjnmhnehiaaGreatDoor
open Go.RowKit
set_option linter.unusedVariables false
variable {w W W' : World} {g : Nat} {x : Option Addr} {cap : Nat} {zs : List Int} {a b : Nat} {vt vf : Value} {l : List Trm} {F : List (List Trm)} {xs : List Value}

theorem Drew.ext (hc : CodeAt w g x zs) (hg : g < w.heap.size) (h : Drew w g x cap zs a W) {row : Option Nat} (k : W.grownBy W' row) (hr : ∀ b, row = some b → w.heap.size ≤ b) : Drew w g x cap zs a W' := by
  have hne : some g ≠ row := fun e => by have := hr g e.symm; omega
  have hgr : w.grownBy W' (some g) := ⟨k.os.trans h.1.os, k.tape.trans h.1.tape, k.output.trans h.1.output, Nat.le_trans h.1.size k.size, fun j hj hj2 => by
    have hj3 : j < W.heap.size := Nat.lt_of_lt_of_le hj h.1.size
    have hj4 : some j ≠ row := fun e => by have := hr j e.symm; omega
    exact (k.block j hj3 hj4).trans (h.1.block j hj hj2)⟩
  obtain ⟨p, s, h1, h2, h3⟩ := h.2.block
  exact ⟨hgr, ⟨p, s, h1, h2, (k.block g h.2.lt hne).trans h3⟩, hc.next hgr⟩
theorem Drew.low (h : Drew w g x cap zs a W) (j : Nat) (hj : j < w.heap.size) (hne : j ≠ g) : W.heap[j]? = w.heap[j]? := h.1.block j hj (fun e => hne (by injection e))
/-- A clause that is being drawn: its box, its row of terms. -/
structure CD (w W : World) (g : Nat) (x : Option Addr) (cap : Nat) (zs : List Int) (a : Nat) (vt : Value) (l : List Trm) : Prop where
  dr : Drew w g x cap zs a W
  cb : W.heap[w.heap.size + 1]? = some (.cells #[vt] 83)
  own : W.ownsRow w.heap.size 85 5 vt l.length (flatT l)
  ne : ∀ j, vt.ownBlock = some j → j ≠ w.heap.size + 1
  nn : ¬ vt = .slice none 0 0
  ok : ∀ t ∈ l, okT t = true
theorem CD.start (hc : CodeAt w g x zs) (hg : g < w.heap.size) (h : SrcAt w g x cap zs a) : CD w ((w.alloc (.cells #[] 85)).alloc (.cells #[.slice (some ⟨w.heap.size, 0, none⟩) 0 0] 83)) g x cap zs a (.slice (some ⟨w.heap.size, 0, none⟩) 0 0) [] := by
  have d0 : Drew w g x cap zs a w := ⟨⟨rfl, rfl, rfl, Nat.le_refl _, fun _ _ _ => rfl⟩, h⟩
  have o1 := World.ownsRow_made (base := w.heap.size) (size := 5) (e := 85) w #[] 0 (Nat.le_refl _) (by unfold maxLen; omega) rfl
  have b2 : Below (w.alloc (.cells #[] 85)).heap.size (w.alloc (.cells #[] 85)) ((w.alloc (.cells #[] 85)).alloc (.cells #[.slice (some ⟨w.heap.size, 0, none⟩) 0 0] 83)) := (Below.refl _ _).alloc (Nat.le_refl _) _
  refine ⟨Drew.allocd hc (Drew.allocd hc d0 _) _, ?_, owns_below o1 b2, fun j hj => by simp [Value.ownBlock] at hj; omega, by simp, fun t ht => by simp at ht⟩
  have := heap_alloc_new (w.alloc (.cells #[] 85)) (.cells #[.slice (some ⟨w.heap.size, 0, none⟩) 0 0] 83)
  simpa using this
theorem CD.cell (X : CD w W g x cap zs a vt l) : W.cell? ⟨w.heap.size + 1, 0, none⟩ = some vt := by simp [World.cell?, X.cb]
theorem CD.soft (X : CD w W g x cap zs a vt l) : W.frozen? ⟨w.heap.size + 1, 0, none⟩ = false := by simp [World.frozen?, X.cb]
theorem CD.lt (X : CD w W g x cap zs a vt l) : w.heap.size + 1 < W.heap.size := (Array.getElem?_eq_some_iff.1 X.cb).1
theorem CD.drew (X : CD w W g x cap zs a vt l) (hg : g < w.heap.size) (d : Drew W g x cap zs b W') : CD w W' g x cap zs b vt l := by
  have hb : ∀ j, w.heap.size ≤ j → j < W.heap.size → W'.heap[j]? = W.heap[j]? := fun j h1 h2 => d.1.block j h2 (fun e => by injection e with e; omega)
  refine ⟨X.dr.trans d, (hb _ (by omega) X.lt).trans X.cb, World.ownsRow.kept X.own d.1 ?_, X.ne, X.nn, X.ok⟩
  cases hv : vt.ownBlock with
  | none => exact .inl rfl
  | some j => exact .inr (fun e => by injection e with e; have := (X.own.lt j hv).1; omega)
theorem CD.alloc (hc : CodeAt w g x zs) (X : CD w W g x cap zs a vt l) (o : Obj) : CD w (W.alloc o) g x cap zs a vt l := by
  have hb : Below W.heap.size W (W.alloc o) := (Below.refl _ _).alloc (Nat.le_refl _) _
  exact ⟨Drew.allocd hc X.dr o, (hb.block _ X.lt).trans X.cb, owns_below X.own hb, X.ne, X.nn, X.ok⟩
/-- One term more, and the box written over. -/
theorem CD.more (hc : CodeAt w g x zs) (hg : g < w.heap.size) (X : CD w W g x cap zs a vt l) {v' : Value} {t : Trm} (ho : W'.ownsRow w.heap.size 85 5 v' (l.length + 1) (flatT l ++ rowT t)) (k : W.grownBy W' vt.ownBlock) (hn : ¬ v' = .slice none 0 0) (hat : v'.ownBlock = vt.ownBlock ∨ v'.ownBlock = some W.heap.size) (ht : okT t = true) : CD w (W'.setCell ⟨w.heap.size + 1, 0, none⟩ v') g x cap zs a v' (l ++ [t]) := by
  have hne : ∀ j, v'.ownBlock = some j → j ≠ w.heap.size + 1 := fun j hj => by
    rcases hat with e | e
    · exact X.ne j (by rw [← e]; exact hj)
    · rw [e] at hj; injection hj with hj; have := X.lt; omega
  have hcb : W'.heap[w.heap.size + 1]? = some (.cells #[vt] 83) := (k.block _ X.lt (fun e => X.ne _ e.symm rfl)).trans X.cb
  have d1 := Drew.ext hc hg X.dr k (fun j hj => (X.own.lt j hj).1)
  have hs : W'.grownBy (W'.setCell ⟨w.heap.size + 1, 0, none⟩ v') (some (w.heap.size + 1)) := grown_set
  refine ⟨Drew.ext hc hg d1 hs (fun j hj => by injection hj with hj; omega), by rw [set_block hcb]; rfl, ?_, hne, hn, fun u hu => ?_⟩
  · rw [flatT_snoc, List.length_append]
    refine World.ownsRow.kept ho hs ?_
    cases hv : v'.ownBlock with
    | none => exact .inl rfl
    | some j => exact .inr (fun e => hne j hv (by injection e))
  · rcases List.mem_append.1 hu with h | h
    · exact X.ok u h
    · simp at h; subst h; exact ht
/-- A filter that is being drawn: the answer's box, its own box, its row of clauses. -/
structure FD (w W : World) (g : Nat) (x : Option Addr) (cap : Nat) (zs : List Int) (a : Nat) (vf : Value) (F : List (List Trm)) (xs : List Value) : Prop where
  dr : Drew w g x cap zs a W
  rb : W.heap[w.heap.size]? = some (.cells #[.slice none 0 0] 25)
  fb : W.heap[w.heap.size + 2]? = some (.cells #[vf] 25)
  own : W.ownsRow (w.heap.size + 1) 83 1 vf F.length xs
  ne : ∀ j, vf.ownBlock = some j → j ≠ w.heap.size + 2
  nn : ¬ vf = .slice none 0 0
  row : ∀ i (h : i < F.length), ∃ gi ci, xs[i]? = some (.slice (some ⟨gi, 0, none⟩) F[i].length ci) ∧ w.heap.size + 3 ≤ gi ∧ vf.ownBlock ≠ some gi ∧ ReadT W gi F[i]
  ok : ∀ l ∈ F, clauseB l = true
theorem FD.start (hc : CodeAt w g x zs) (h : SrcAt w g x cap zs a) : FD w (((w.alloc (.cells #[.slice none 0 0] 25)).alloc (.cells #[] 83)).alloc (.cells #[.slice (some ⟨w.heap.size + 1, 0, none⟩) 0 0] 25)) g x cap zs a (.slice (some ⟨w.heap.size + 1, 0, none⟩) 0 0) [] [] := by
  have d0 : Drew w g x cap zs a w := ⟨⟨rfl, rfl, rfl, Nat.le_refl _, fun _ _ _ => rfl⟩, h⟩
  obtain ⟨W1, h1⟩ : ∃ W1, W1 = w.alloc (.cells #[.slice none 0 0] 25) := ⟨_, rfl⟩
  have s1 : W1.heap.size = w.heap.size + 1 := by rw [h1]; simp
  have o1 := World.ownsRow_made (base := w.heap.size + 1) (size := 1) (e := 83) W1 #[] 0 (by omega) (by unfold maxLen; omega) rfl
  rw [s1] at o1
  have b2 : Below W1.heap.size W1 (W1.alloc (.cells #[] 83)) := (Below.refl _ _).alloc (Nat.le_refl _) _
  have b3 : Below (W1.alloc (.cells #[] 83)).heap.size (W1.alloc (.cells #[] 83)) ((W1.alloc (.cells #[] 83)).alloc (.cells #[.slice (some ⟨w.heap.size + 1, 0, none⟩) 0 0] 25)) := (Below.refl _ _).alloc (Nat.le_refl _) _
  have n1 : W1.heap[w.heap.size]? = some (.cells #[.slice none 0 0] 25) := by rw [h1]; exact heap_alloc_new w _
  have n3 := heap_alloc_new (W1.alloc (.cells #[] 83)) (.cells #[.slice (some ⟨w.heap.size + 1, 0, none⟩) 0 0] 25)
  have s2 : (W1.alloc (.cells #[] 83)).heap.size = w.heap.size + 2 := by simp [s1]
  rw [s2] at n3
  rw [← h1]
  refine ⟨Drew.allocd hc (Drew.allocd hc (by rw [h1]; exact Drew.allocd hc d0 _) _) _, (b3.block _ (by omega)).trans ((b2.block _ (by omega)).trans n1), n3, owns_below o1 b3, fun j hj => by simp [Value.ownBlock] at hj; omega, by simp, fun i h => by simp at h, fun l hl => by simp at hl⟩
theorem FD.lt (X : FD w W g x cap zs a vf F xs) : w.heap.size + 2 < W.heap.size := (Array.getElem?_eq_some_iff.1 X.fb).1
theorem FD.drew (X : FD w W g x cap zs a vf F xs) (hg : g < w.heap.size) (d : Drew W g x cap zs b W') : FD w W' g x cap zs b vf F xs := by
  have hlt := X.lt
  have hb : ∀ j, w.heap.size ≤ j → j < W.heap.size → W'.heap[j]? = W.heap[j]? := fun j h1 h2 => d.1.block j h2 (fun e => by injection e with e; omega)
  refine ⟨X.dr.trans d, (hb _ (by omega) (by omega)).trans X.rb, (hb _ (by omega) hlt).trans X.fb, World.ownsRow.kept X.own d.1 ?_, X.ne, X.nn, fun i hi => ?_, X.ok⟩
  · cases hv : vf.ownBlock with
    | none => exact .inl rfl
    | some j => exact .inr (fun e => by injection e with e; have := (X.own.lt j hv).1; omega)
  · obtain ⟨gi, ci, h1, h2, h3, h4⟩ := X.row i hi
    exact ⟨gi, ci, h1, h2, h3, h4.grown d.1 (fun e => by injection e with e; omega)⟩
theorem FD.cell (X : FD w W g x cap zs a vf F xs) : W.cell? ⟨w.heap.size + 2, 0, none⟩ = some vf := by simp [World.cell?, X.fb]
theorem FD.soft (X : FD w W g x cap zs a vf F xs) : W.frozen? ⟨w.heap.size + 2, 0, none⟩ = false := by simp [World.frozen?, X.fb]
/-- One clause more, and the box written over. -/
theorem FD.more (hc : CodeAt w g x zs) (hg : g < w.heap.size) (X : FD w W g x cap zs a vf F xs) {v' : Value} {l : List Trm} {gt ct : Nat} (ho : W'.ownsRow (w.heap.size + 1) 83 1 v' (F.length + 1) (xs ++ [.slice (some ⟨gt, 0, none⟩) l.length ct])) (k : W.grownBy W' vf.ownBlock) (hn : ¬ v' = .slice none 0 0) (hat : v'.ownBlock = vf.ownBlock ∨ v'.ownBlock = some W.heap.size) (hr : ReadT W gt l) (h3 : w.heap.size + 3 ≤ gt) (hvt : vf.ownBlock ≠ some gt) (hl : clauseB l = true) : FD w (W'.setCell ⟨w.heap.size + 2, 0, none⟩ v') g x cap zs a v' (F ++ [l]) (xs ++ [.slice (some ⟨gt, 0, none⟩) l.length ct]) := by
  have hlt := X.lt
  have hne : ∀ j, v'.ownBlock = some j → j ≠ w.heap.size + 2 := fun j hj => by
    rcases hat with e | e
    · exact X.ne j (by rw [← e]; exact hj)
    · rw [e] at hj; injection hj with hj; omega
  have hfb : W'.heap[w.heap.size + 2]? = some (.cells #[vf] 25) := (k.block _ hlt (fun e => X.ne _ e.symm rfl)).trans X.fb
  have hrb : W'.heap[w.heap.size]? = some (.cells #[.slice none 0 0] 25) := (k.block _ (by omega) (fun e => by have := (X.own.lt _ e.symm).1; omega)).trans X.rb
  have d1 := Drew.ext hc hg X.dr k (fun j hj => by have := (X.own.lt j hj).1; omega)
  have hs : W'.grownBy (W'.setCell ⟨w.heap.size + 2, 0, none⟩ v') (some (w.heap.size + 2)) := grown_set
  have hv' : ∀ gi, gi < W.heap.size → vf.ownBlock ≠ some gi → v'.ownBlock ≠ some gi := fun gi h1 h2 e => by
    rcases hat with e' | e'
    · exact h2 (by rw [← e']; exact e)
    · rw [e'] at e; injection e with e; omega
  have hxl : xs.length = F.length := by have := X.own.1; omega
  refine ⟨Drew.ext hc hg d1 hs (fun j hj => by injection hj with hj; omega), (hs.block _ (by have := Nat.lt_of_lt_of_le hlt k.size; omega) (fun e => by injection e with e; omega)).trans hrb, by rw [set_block hfb]; rfl, ?_, hne, hn, fun i hi => ?_, fun u hu => ?_⟩
  · rw [List.length_append]
    refine World.ownsRow.kept ho hs ?_
    cases hv : v'.ownBlock with
    | none => exact .inl rfl
    | some j => exact .inr (fun e => hne j hv (by injection e))
  · have keep : ∀ (gi : Nat) (m : List Trm), ReadT W gi m → w.heap.size + 3 ≤ gi → vf.ownBlock ≠ some gi → ReadT (W'.setCell ⟨w.heap.size + 2, 0, none⟩ v') gi m := fun gi m h4 h5 h6 => (h4.grown k (fun e => h6 e.symm)).grown hs (fun e => by injection e with e; omega)
    by_cases hi2 : i < F.length
    · obtain ⟨gi, ci, h1, h2, h3', h4⟩ := X.row i hi2
      refine ⟨gi, ci, ?_, h2, hv' gi h4.lt h3', ?_⟩
      · rw [List.getElem?_append_left (by omega), List.getElem_append_left hi2]; exact h1
      · rw [List.getElem_append_left hi2]; exact keep gi _ h4 h2 h3'
    · have hie : i = F.length := by simp at hi; omega
      subst hie
      refine ⟨gt, ct, ?_, h3, hv' gt hr.lt hvt, ?_⟩
      · have e1 : (xs ++ [Value.slice (some ⟨gt, 0, none⟩) l.length ct])[F.length]? = some (.slice (some ⟨gt, 0, none⟩) l.length ct) := by rw [← hxl]; simp
        have e2 : (F ++ [l])[F.length]'hi = l := by simp
        rw [e2]; exact e1
      · rw [List.getElem_append_right (by omega)]; simpa using keep gt l hr h3 hvt
  · rcases List.mem_append.1 hu with h | h
    · exact X.ok u h
    · simp at h; subst h; exact hl

theorem CD.upto (X : CD w W g x cap zs a vt l) (hab : a ≤ b) : CD w W g x cap zs b vt l := ⟨⟨X.dr.1, X.dr.2.mono hab⟩, X.cb, X.own, X.ne, X.nn, X.ok⟩
theorem FD.upto (X : FD w W g x cap zs a vf F xs) (hab : a ≤ b) : FD w W g x cap zs b vf F xs := ⟨⟨X.dr.1, X.dr.2.mono hab⟩, X.rb, X.fb, X.own, X.ne, X.nn, X.row, X.ok⟩
theorem FD.alloc (hc : CodeAt w g x zs) (X : FD w W g x cap zs a vf F xs) (o : Obj) : FD w (W.alloc o) g x cap zs a vf F xs := by
  have hb : Below W.heap.size W (W.alloc o) := (Below.refl _ _).alloc (Nat.le_refl _) _
  have hlt := X.lt
  refine ⟨Drew.allocd hc X.dr o, (hb.block _ (by omega)).trans X.rb, (hb.block _ hlt).trans X.fb, owns_below X.own hb, X.ne, X.nn, fun i hi => ?_, X.ok⟩
  obtain ⟨gi, ci, h1, h2, h3, h4⟩ := X.row i hi
  exact ⟨gi, ci, h1, h2, h3, h4.next hb⟩
theorem drew_self (h : SrcAt w g x cap zs a) : Drew w g x cap zs a w.drew := ⟨⟨rfl, rfl, rfl, Nat.le_refl _, fun _ _ _ => rfl⟩, ⟨h.block, ⟨h.code.inb, h.code.bytes, h.code.len⟩⟩⟩
theorem term_new (w : World) (t : Trm) : ∀ (j : Nat) (u : Value), (rowT t)[j]? = some u → (w.alloc (.cells #[.int .i64 t.op, .string t.p, .int .i64 t.c.k, .int .i64 t.c.n, .string t.c.t] 85)).cell? ((⟨w.heap.size, 0, none⟩ : Addr).add j) = some u := by
  intro j u hj
  match j, hj with
  | 0, hj => simp [rowT] at hj; subst hj; simp [Addr.add, go_sem]
  | 1, hj => simp [rowT] at hj; subst hj; simp [Addr.add, go_sem]
  | 2, hj => simp [rowT] at hj; subst hj; simp [Addr.add, go_sem]
  | 3, hj => simp [rowT] at hj; subst hj; simp [Addr.add, go_sem]
  | 4, hj => simp [rowT] at hj; subst hj; simp [Addr.add, go_sem]
  | j + 5, hj => simp [rowT] at hj
theorem term_cells (t : Trm) : ∀ u ∈ rowT t, u.oneCell' = true := by intro u hu; simp [rowT] at hu; rcases hu with rfl | rfl | rfl | rfl | rfl <;> rfl
/-- One term behind a row of terms of the call's own, as a step of a region of open order. -/
theorem step_appTm {ops : Array Oper} {o : Oper} {a : Act} {w : World} {K : Act → World → Prop} {Q : Exit → Act → World → Prop} {E : Prop} (hgd : o.guard = none) (s x : Operand)
    (ho : o.op = .call { callee := .builtin .append, args := #[s, x], argTypes := #[81, 81] }) (base n : Nat) (v : Value) (xs : List Value)
    (hs : a.eval s = v) (hown : w.ownsRow base 85 5 v n xs) (t : Trm) (ad : Nat) (hx : a.eval x = .slice (some ⟨ad, 0, none⟩) 1 1) (hc : ∀ (j : Nat) (u : Value), (rowT t)[j]? = some u → w.cell? ((⟨ad, 0, none⟩ : Addr).add j) = some u) (hn : n ≤ 1000000) (hbase : base ≤ w.heap.size)
    (hK : ∀ v' w', w'.ownsRow base 85 5 v' (n + 1) (xs ++ rowT t) → w.grownBy w' v.ownBlock → (¬ v' = .slice none 0 0) → (v'.ownBlock = v.ownBlock ∨ v'.ownBlock = some w.heap.size) → K (a.put o.dst v') w') :
    if Region.wanted o (yielded ops a.tmps) = true then Oper.wp Tryz.prog o a w K Q else E := by
  have hw : Region.wanted o (yielded ops a.tmps) = true := by simp [Region.wanted, hgd]
  rw [if_pos hw]
  obtain ⟨i0, hi, hz0, hz1, hz2⟩ := info_parts infoT
  obtain ⟨v', w', hr, h2, h3, h4, h5⟩ := run_append_own_at (P := Tryz.prog) w base 81 o.type 85 i0 (.agg #[.int .i64 0, .string em, .int .i64 0, .int .i64 0, .string em]) 5 56 Tryz.underlying81 hi hz0 hz1 hz2 rfl (by decide) v n xs hown ⟨ad, 0, none⟩ 1 1 (rowT t) rfl hc (term_cells t) (by unfold maxLen; omega) (by omega) hbase
  unfold Oper.wp execOp
  simp only [ho, resolve, invoke, builtin, Sem.run_bind, Sem.run_pure, Result.andThen_ok, List.map_toArray, List.map_cons, List.map_nil, hs, hx, hr]
  exact hK _ _ h2 h3 (fun e => by have := (h4.mp e).2; simp at this) h5

set_option maxRecDepth 8000 in
set_option maxHeartbeats 8000000 in
theorem filter_at (g : Nat) (x : Option Addr) (cap : Nat) (zs : List Int) (a : Nat) (w : World) (h : SrcAt w g x cap zs a) (ha : a + 2000 ≤ 100000) :
    Calls Tryz.prog 24 #[.pointer (some ⟨g, 0, none⟩)] w fun e w' => (∃ gf cf F, e = .returned (.agg #[.slice (some ⟨gf, 0, none⟩) F.length cf]) ∧ F.length ≤ cf ∧ MadeC w' (w.heap.size + 1) gf F ∧ filtB F = true) ∧ Drew w g x cap zs (a + 2000) w' := by
  obtain ⟨i0, hi0, hz0, hz1, hz2⟩ := info_parts infoC
  have hg := h.lt
  have hcw0 := h.code
  have HC : Hid (CodeAt w g x zs) := h.code
  have HX0 : Hid (FD _ _ _ _ _ _ _ _ _ _) := FD.start h.code h
  clear h hcw0
  go_enter Tryz.func24, Tryz.ntmps24
  go_wp2_with fail
  generalize ((w.alloc (.cells #[.slice none 0 0] 25)).alloc (.cells #[] 83)).alloc (.cells #[.slice (some ⟨w.heap.size + 1, 0, none⟩) 0 0] 25) = W0 at HX0 ⊢
  refine (next_any g x cap zs a 4 _ HX0.out.dr.2 (by omega) (by omega) (by omega)).mono ?_
  rintro e w1 ⟨⟨z, rfl, hz⟩, d1⟩
  have HX1 : Hid (FD _ _ _ _ _ _ _ _ _ _) := HX0.out.drew hg d1
  obtain ⟨N, hN, hN1, hN2⟩ : ∃ N : Nat, 1 + (z : Int) / 3 = (N : Int) ∧ 1 ≤ N ∧ N ≤ 2 := ⟨1 + z / 3, by omega, by omega, by omega⟩
  have HN : Hid (_ = _) := hN
  clear d1 HX0 hN
  go_wp2_with fail
  go_loopw [4] (fun i wr => ∃ (q : Nat) (F : List (List Trm)) (vf : Value) (xs : List Value), i = .int .i64 q ∧ q + F.length = N ∧ FD w wr g x cap zs (a + 1 + 601 * F.length) vf F xs) (fun i _ => (intOf i).toNat)
  case atStart => exact ⟨N, [], _, [], by first | rfl | (rw [HN.out]) | (have := HN.out; congr 1; omega), by simp, HX1.out⟩
  case round =>
    obtain ⟨q, F, vf, xs, rfl, hq, X⟩ := hrel
    have hgw := X.dr.2.lt
    have HX : Hid (FD _ _ _ _ _ _ _ _ _ _) := X
    clear HX1
    by_cases h0 : 0 < q
    · have hq2 : (0 : Int) < (q : Int) := by omega
      obtain ⟨A, hA⟩ : ∃ A, A = a + 1 + 601 * F.length := ⟨_, rfl⟩
      have hA2 : A + 601 ≤ a + 1300 := by omega
      have hAe : A = a + 1 + 601 * F.length := hA
      have HAE : Hid (A = a + 1 + 601 * F.length) := hA
      rw [← hA] at X HX
      have HCW : Hid (CodeAt wr g x zs) := X.dr.2.code
      have hcw : CodeAt wr g x zs := X.dr.2.code
      have HY0 : Hid (CD _ _ _ _ _ _ _ _ _) := CD.start X.dr.2.code hgw X.dr.2
      clear X hA hAe
      obtain ⟨Wa, rfl⟩ : ∃ W, W = wr := ⟨_, rfl⟩
      go_wp2_with fail
      generalize (Wa.alloc (.cells #[] 85)).alloc (.cells #[.slice (some ⟨Wa.heap.size, 0, none⟩) 0 0] 83) = Wb at HY0 ⊢
      refine (next_any g x cap zs A 3 _ HY0.out.dr.2 (by omega) (by omega) (by omega)).mono ?_
      rintro e w2 ⟨⟨z2, rfl, hz2'⟩, d2⟩
      have HY2 : Hid (CD _ _ _ _ _ _ _ _ _) := HY0.out.drew hgw d2
      clear d2 HY0
      go_wp2_with fail
      go_loopw [6] (fun j wr => ∃ (m : Nat) (l : List Trm) (vt : Value), j = .int .i64 m ∧ m + l.length = z2 ∧ CD Wa wr g x cap zs (A + 1 + 300 * l.length) vt l) (fun j _ => (intOf j).toNat)
      case atStart => exact ⟨z2, [], _, rfl, by simp, HY2.out⟩
      case round =>
        obtain ⟨m, l, vt, rfl, hm, Y⟩ := hrel
        clear HY2
        by_cases hm0 : 0 < m
        · have hm2 : (0 : Int) < (m : Int) := by omega
          have HYd : Hid (CD _ _ _ _ _ _ _ _ _) := Y.drew hgw (drew_self Y.dr.2)
          have hyl := Y.lt
          have c0 := Y.cell
          clear Y
          go_wp2_with fail
          refine Lg.wp_region_last2 (S := fun w0 => w0.cell? ⟨Wa.heap.size + 1, 0, none⟩ = some vt) 7 (by kernel_rfl) rfl (by kernel_rfl) HYd.out.cell (fun hHeld => ?_)
          simp only [List.take_succ_cons, List.take_zero]
          refine Lg.take_at (i := 0) (v := ?_) .zero (by kernel_rfl) (by kernel_rfl) (by kernel_rfl) (fun _ _ _ h => h) (Or.inl ⟨by rfl, ?_⟩) (by assumption) ?_
          rotate_left
          focus (intro w' hSw; (try dsimp only at hSw); go_simp; try (with_reducible rfl))
          try simp only [Act.put, List.setIfInBounds_toArray, List.set_cons_zero, List.set_cons_succ]
          refine Lg.take_at (i := 1) (v := ?_) (.succ .zero) (by kernel_rfl) (by kernel_rfl) (by kernel_rfl) (fun _ _ _ h => h) (Or.inl ⟨by rfl, ?_⟩) (by assumption) ?_
          rotate_left
          focus (intro w' hSw; (try dsimp only at hSw); go_simp; try (with_reducible rfl))
          try simp only [Act.put, List.setIfInBounds_toArray, List.set_cons_zero, List.set_cons_succ]
          refine Lg.take_at (i := 2) (v := ?_) (.succ (.succ .zero)) (by kernel_rfl) (by kernel_rfl) (by kernel_rfl) (fun _ _ _ h => h) (Or.inl ⟨by rfl, ?_⟩) (by assumption) ?_
          rotate_left
          focus (intro w' hSw; (try dsimp only at hSw); go_simp; try (with_reducible rfl))
          try simp only [Act.put, List.setIfInBounds_toArray, List.set_cons_zero, List.set_cons_succ]
          refine wpAnyH_ready (rs := [3]) (by kernel_rfl) (by simp) ?_
          refine (Lg.cons_at (i := 3) (.succ (.succ (.succ .zero))) (fun K hK => ?_) AllReadyH.nil)
          go_simp
          refine (term_at g x cap zs _ _ HYd.out.dr.2 (by omega)).mono ?_
          rintro e w3 ⟨⟨t, rfl, ht⟩, d3⟩
          have HY3 : Hid (CD _ _ _ _ _ _ _ _ _) := HYd.out.drew hgw d3
          have HT3 : Hid (okT t = true) := ht
          clear d3 ht
          try go_wp2_with fail
          refine hK.out _ _ ?_ ?_
          focus exact HY3.out.cell
          clear hK K hHeld
          intro hHeld
          try simp only [Act.put, List.setIfInBounds_toArray, List.set_cons_zero, List.set_cons_succ]
          refine wpAnyH_ready (rs := [4]) (by kernel_rfl) (by simp) ?_
          refine (Lg.cons_at (i := 4) (.succ (.succ (.succ (.succ .zero)))) (fun K hK => ?_) AllReadyH.nil)
          go_simp
          have HY4 : Hid (CD Wa (w3.alloc (.cells #[.int .i64 t.op, .string t.p, .int .i64 t.c.k, .int .i64 t.c.n, .string t.c.t] 85)) g x cap zs _ vt l) := HY3.out.alloc hcw _
          refine hK.out _ _ ?_ ?_
          focus exact HY4.out.cell
          clear hK K hHeld
          intro hHeld
          try simp only [Act.put, List.setIfInBounds_toArray, List.set_cons_zero, List.set_cons_succ]
          refine wpAnyH_ready (rs := [5]) (by kernel_rfl) (by simp) ?_
          refine (Lg.cons_at (i := 5) (.succ (.succ (.succ (.succ (.succ .zero))))) (fun K hK => ?_) AllReadyH.nil)
          refine step_appTm rfl (.tmp 26) (.tmp 29) rfl Wa.heap.size l.length vt (flatT l) rfl HY4.out.own t w3.heap.size rfl (term_new _ _) (by omega) (by have := HY4.out.lt; omega) ?_
          intro v5 w5 o5 k5 n5 at5
          obtain ⟨g5, cc5, hv5⟩ := owns_shape o5 n5
          subst hv5
          have hcb : w5.heap[Wa.heap.size + 1]? = some (.cells #[vt] 83) := (k5.block _ HY4.out.lt (fun e => HY4.out.ne _ e.symm rfl)).trans HY4.out.cb
          have c5 : w5.cell? ⟨Wa.heap.size + 1, 0, none⟩ = some vt := by simp [World.cell?, hcb]
          have f5 : w5.frozen? ⟨Wa.heap.size + 1, 0, none⟩ = false := by simp [World.frozen?, hcb]
          have HY5 : Hid (CD _ _ _ _ _ _ _ _ _) := HY4.out.more hcw hgw o5 k5 n5 at5 HT3.out
          have hl5 : Wa.heap.size + 1 < w5.heap.size := Nat.lt_of_lt_of_le HY4.out.lt k5.size
          clear o5 k5 n5 at5 hcb
          refine hK.out _ _ ?_ ?_
          focus exact c5
          clear hK K hHeld
          intro hHeld
          try simp only [Act.put, List.setIfInBounds_toArray, List.set_cons_zero, List.set_cons_succ]
          refine Lg.take_at (i := 6) (v := ?_) (.succ (.succ (.succ (.succ (.succ (.succ .zero)))))) (by kernel_rfl) (by kernel_rfl) (by kernel_rfl) (fun _ _ _ h => h) (Or.inl ⟨by rfl, ?_⟩) (by assumption) ?_
          rotate_left
          focus (intro w' hSw; (try dsimp only at hSw); go_simp; try (with_reducible rfl))
          try simp only [Act.put, List.setIfInBounds_toArray, List.set_cons_zero, List.set_cons_succ]
          refine wpAnyH_done (by kernel_rfl) ?_ _
          refine Lg.last_at (.succ (.succ (.succ (.succ (.succ (.succ (.succ .zero))))))) (fun K hK => ?_)
          go_simp
          refine hK.out _ _ ?_
          clear hK K
          go_wp2_with fail
          go_roundw
          case rel => exact ⟨m - 1, l ++ [t], _, by go_num, by rw [List.length_append]; simp only [List.length_cons, List.length_nil]; omega, by have h := HY5.out; rw [List.length_append]; exact h.upto (by simp only [List.length_cons, List.length_nil]; omega)⟩
          case measure => simp [intOf]; omega
        · have hm2 : ¬ (0 : Int) < (m : Int) := by omega
          obtain ⟨gt, ct, hv⟩ := owns_shape Y.own Y.nn
          subst hv
          have hgt := (Y.own.lt gt rfl).1
          have hlt0 := HX.out.lt
          have X1 := HX.out.drew hg Y.dr
          have HR : Hid (ReadT wr gt l) := ReadT.of_own Y.own
          have hvg : vf.ownBlock ≠ some gt := fun e => by have := (HX.out.own.lt gt e).2; omega
          have hcl : clauseB l = true := by
            unfold clauseB
            rw [Bool.and_eq_true, decide_eq_true_eq, List.all_eq_true]
            exact ⟨by omega, Y.ok⟩
          have HCL : Hid (clauseB l = true) := hcl
          have c1 := X1.cell
          have c2 := Y.cell
          have hl1 := X1.lt
          have hl2 := Y.lt
          have HX2 : Hid (FD _ _ _ _ _ _ _ _ _ _) := X1.alloc HC.out (.cells #[.slice (some ⟨gt, 0, none⟩) l.length ct] 83)
          have O2 := X1.own
          clear X1 Y hcl
          go_wp2_with (at_builtin; refine wpList_append_own_at _ rfl (.tmp 33) (.tmp 35) 23 rfl (w.heap.size + 1) 83 i0 (.agg #[.slice none 0 0]) 1 24 Tryz.underlying23 hi0 hz0 hz1 hz2 rfl (by decide) _ _ _ rfl (O2.alloc _) ⟨wr.heap.size, 0, none⟩ 1 1 [.slice (some ⟨gt, 0, none⟩) l.length ct] rfl rfl (cell_one_new _ _ _) (by intro u hu; simp at hu; subst hu; rfl) (by unfold maxLen; omega) (by omega) (by simp; omega) ?_)
          intro v6 w6 o6 k6 n6 at6
          obtain ⟨g6, cc6, hv6⟩ := owns_shape o6 (fun e => n6 e)
          subst hv6
          have hfb : w6.heap[w.heap.size + 2]? = some (.cells #[vf] 25) := (k6.block _ HX2.out.lt (fun e => HX2.out.ne _ e.symm rfl)).trans HX2.out.fb
          have c6 : w6.cell? ⟨w.heap.size + 2, 0, none⟩ = some vf := by simp [World.cell?, hfb]
          have f6 : w6.frozen? ⟨w.heap.size + 2, 0, none⟩ = false := by simp [World.frozen?, hfb]
          have hl6 : w.heap.size + 2 < w6.heap.size := Nat.lt_of_lt_of_le HX2.out.lt k6.size
          have HX6 : Hid (FD _ _ _ _ _ _ _ _ _ _) := HX2.out.more HC.out hg o6 k6 (fun e => n6 e) (by simpa using at6) (HR.out.next ((Below.refl _ _).alloc (Nat.le_refl _) _)) (by omega) hvg HCL.out
          clear o6 k6 n6 at6 hfb O2 c1 c2 HX2 HR
          go_wp2_with fail
          go_roundw
          case rel => exact ⟨q - 1, F ++ [l], _, _, by go_num, by rw [List.length_append]; simp only [List.length_cons, List.length_nil]; omega, HX6.out.upto (by have := HAE.out; rw [List.length_append]; simp only [List.length_cons, List.length_nil]; omega)⟩
          case measure => simp [intOf]; omega
    · have hq2 : ¬ (0 : Int) < (q : Int) := by omega
      obtain ⟨gf, cf, hv⟩ := owns_shape X.own X.nn
      subst hv
      have hfl : F.length = N := by omega
      have hcf : F.length ≤ cf := by
        rcases X.own.2 with ⟨e, _⟩ | ⟨g', cap', cur, e, _, _, hcp, _⟩
        · cases e
        · injection e with _ _ e; rw [e]; exact hcp
      have hfo : filtB F = true := by
        unfold filtB
        rw [Bool.and_eq_true, decide_eq_true_eq, List.all_eq_true]
        exact ⟨by omega, X.ok⟩
      have HFO : Hid (filtB F = true) := hfo
      have c1 := X.cell
      have hl1 := X.lt
      have r0 : wr.cell? ⟨w.heap.size, 0, none⟩ = some (.slice none 0 0) := by simp [World.cell?, X.rb]
      have f0 : wr.frozen? ⟨w.heap.size, 0, none⟩ = false := by simp [World.frozen?, X.rb]
      have hl0 : w.heap.size < wr.heap.size := by omega
      clear X hfo
      go_wp2_with fail
      refine bodyPost_ret (v := .agg #[.slice (some ⟨gf, 0, none⟩) F.length cf]) (by simp [results, Tryz.results24, go_sem, *]) rfl ⟨⟨gf, cf, F, rfl, hcf, ?_, HFO.out⟩, ?_⟩
      · have hgf := HX.out.own.lt gf rfl
        have hM : MadeC wr (w.heap.size + 1) gf F := ⟨hgf.1, hgf.2, fun i hi => by
          obtain ⟨gi, ci, h1, h2, h3, h4⟩ := HX.out.row i hi
          exact ⟨gi, ci, owns_cell HX.out.own i _ h1, by omega, h4⟩⟩
        exact hM.set (by omega)
      · exact Drew.setR HC.out hg (Drew.more HX.out.dr (by omega)) 0 _

/-- The answer's box of a drawn filter. -/
structure Res1f (w W : World) : Prop where
  bel : Below w.heap.size w W
  blk : W.heap[w.heap.size]? = some (.cells #[.slice none 0 0] 25)
theorem Res1f.lt (X : Res1f w W) : w.heap.size < W.heap.size := (Array.getElem?_eq_some_iff.1 X.blk).1
set_option maxRecDepth 4000 in
set_option maxHeartbeats 2000000 in
theorem filterOf_any (x : Option Addr) (cap : Nat) (zs : List Int) (w : World) (h : InC w x zs) :
    Calls Tryz.prog 5 #[.slice x zs.length cap] w fun e w' => (∃ gf cf F, e = .returned (.agg #[.slice (some ⟨gf, 0, none⟩) F.length cf]) ∧ F.length ≤ cf ∧ MadeC w' (w.heap.size + 1) gf F ∧ filtB F = true) ∧ Below w.heap.size w w' := by
  have b0 : Below w.heap.size w (w.alloc (.cells #[.slice none 0 0] 25)) := (Below.refl _ _).alloc (Nat.le_refl _) _
  have k0 := heap_alloc_new w (.cells #[.slice none 0 0] 25)
  have s0 : (w.alloc (.cells #[.slice none 0 0] 25)).heap.size = w.heap.size + 1 := by simp
  have HS : Hid (Calls _ _ _ _ _) := l00Source_any x cap zs (w.alloc (.cells #[.slice none 0 0] 25)) (h.step b0)
  clear h
  go_enter Tryz.func5, Tryz.ntmps5
  go_wp2_with fail
  generalize w.alloc (.cells #[.slice none 0 0] 25) = W0 at b0 k0 s0 HS ⊢
  refine HS.out.mono ?_
  rintro e w1 ⟨rfl, s1, b1⟩
  rw [s0] at s1 ⊢
  have k1 := (b1.block _ (by omega)).trans k0
  have B1 := b0.trans (b1.mono (by omega))
  have HSR : Hid (SrcAt _ _ _ _ _ _) := s1
  have hz1 := b1.size
  clear s1 b1 HS k0
  go_wp2_with fail
  refine (filter_at (w.heap.size + 1) x cap zs 0 _ HSR.out (by decide)).mono ?_
  rintro e w2 ⟨⟨gf, cf, F, rfl, hcf, RC, hF⟩, d2⟩
  have k2 := (d2.1.block w.heap.size (by omega) (fun e => by injection e with e; omega)).trans k1
  have B2 : Below w.heap.size w w2 := Below.grown B1 d2.1 (by omega) (fun j hj => by injection hj with hj; omega)
  have HRC : Hid (MadeC w2 _ gf F) := RC
  have HF : Hid (filtB F = true) := hF
  have c0 : w2.cell? ⟨w.heap.size, 0, none⟩ = some (.slice none 0 0) := by simp [World.cell?, k2]
  have f0 : w2.frozen? ⟨w.heap.size, 0, none⟩ = false := by simp [World.frozen?, k2]
  have hlt : w.heap.size < w2.heap.size := (Array.getElem?_eq_some_iff.1 k2).1
  clear RC hF d2 HSR
  go_wp2_with fail
  refine bodyPost_ret (v := .agg #[.slice (some ⟨gf, 0, none⟩) F.length cf]) (by simp [results, Tryz.results5, go_sem, *]) rfl ⟨⟨gf, cf, F, rfl, hcf, ?_, HF.out⟩, ?_⟩
  · have h := HRC.out
    exact (MadeC.set ⟨by have := h.ge; omega, h.lt, fun i hi => by obtain ⟨gi, ci, h1, h2, h3⟩ := h.cells i hi; exact ⟨gi, ci, h1, by omega, h3⟩⟩ (Nat.lt_succ_self _))
  · (repeat (first | (with_reducible exact Below.refl _ _) | (with_reducible assumption) | (with_reducible apply below_drewN) | (with_reducible apply Below.drew) | ((with_reducible refine Below.setCell ?_ ?_ _); rotate_left; focus (first | (simp; done) | (simp; omega) | omega)) | ((with_reducible refine Below.alloc ?_ ?_ _); rotate_left; focus (first | (simp; done) | (simp; omega) | omega))))

end Go.Proofs.YtdchhjnmhnehiaaGreatDoor

/- A byte, and a code's bytes behind it. -/
namespace Go.Proofs.YtdchhjnmhnehiaaGreatDoor
open Go.RowKit
set_option linter.unusedVariables false

theorem gdZ (zs : List Int) (i : Nat) (h : i < zs.length) : zs.getD i 0 = zs[i] := by rw [List.getD, List.getElem?_eq_getElem h]; rfl
theorem infoU8z : (Tryz.prog.info? 5).map (fun i => (i.zero, i.size, i.bytes)) = some (some (.int .u8 0), 1, 1) := by kernel_rfl
def byteZ (zs : List Int) : List Value := zs.map (Value.int .u8)
theorem byteZ_get (zs : List Int) (i : Nat) (h : i < zs.length) : (byteZ zs)[i]? = some (.int .u8 (zs.getD i 0)) := by
  unfold byteZ; rw [List.getElem?_map, List.getElem?_eq_getElem h, gdZ zs i h]; rfl
set_option maxRecDepth 8000 in
/-- A byte, and a code's bytes behind it. -/
theorem appZ_bytes (z : Int) (hz : 0 ≤ z ∧ z < 256) (bb : Nat) (x : Option Addr) (cap : Nat) (zs : List Int) (w : World) (ty : TypeId) (hb : w.cell? ⟨bb, 0, none⟩ = some (.int .u8 z)) (hbl : bb < w.heap.size) (h : InC w x zs) (hl : zs.length ≤ 1048576) :
    ∃ g c' w', (Builtin.append_ #[22, 22] ty #[.slice (some ⟨bb, 0, none⟩) 1 1, .slice x zs.length cap]).run Tryz.prog w = .ok (.slice (some ⟨g, 0, none⟩) (z :: zs : List Int).length c') w' ∧ InC w' (some ⟨g, 0, none⟩) (z :: zs) ∧ Below w.heap.size w w' := by
  obtain ⟨i0, hi, hz0, hz1, hz2⟩ := info_parts infoU8z
  have hbytes : ∀ i, i < (z :: zs : List Int).length → 0 ≤ (z :: zs : List Int).getD i 0 ∧ (z :: zs : List Int).getD i 0 < 256 := by
    intro i hi
    match i, hi with
    | 0, _ => exact ⟨by simpa using hz.1, by simpa using hz.2⟩
    | i + 1, hi => simpa using h.bytes i (by simpa using hi)
  have hlen : (z :: zs : List Int).length = 1 + zs.length := by simp; omega
  have hle : (z :: zs : List Int).length ≤ 2097152 := by rw [hlen]; omega
  rcases Nat.eq_zero_or_pos zs.length with h0 | h0
  · obtain rfl := List.eq_nil_of_length_eq_zero h0
    have hsrc : Src Tryz.prog i0.size 22 (.slice x 0 cap) 0 [] w := by
      cases x with
      | none => exact Src.ofNil (P := Tryz.prog) w (e' := 5) Tryz.underlying22 cap
      | some a => exact Src.ofSlice (P := Tryz.prog) w (e' := 5) Tryz.underlying22 a 0 cap [] (by simp) (fun j u hj => by simp at hj) (fun u hu => by cases hu)
    have hr := run_append_room_src (P := Tryz.prog) w 22 22 ty 5 i0 Tryz.underlying22 hi bb 0 1 1 (.slice x 0 cap) 0 [] hsrc (by omega) (fun j hj => absurd hj (by simp)) (fun j hj => absurd hj (by simp))
    refine ⟨bb, 1, w, hr, ⟨.inr ⟨bb, 0, rfl, hbl, fun i hi => ?_⟩, hbytes, hle⟩, Below.refl _ _⟩
    have : i = 0 := by simp at hi; exact hi
    subst this; simpa using hb
  · obtain ⟨b, off, rfl, hlt, hc⟩ : ∃ b off, x = some ⟨b, off, none⟩ ∧ b < w.heap.size ∧ ∀ i, i < zs.length → w.cell? ⟨b, off + i, none⟩ = some (.int .u8 (zs.getD i 0)) := by
      rcases h.inb with h1 | h1
      · omega
      · exact h1
    have hadd : ∀ (b o j : Nat), (⟨b, o, none⟩ : Addr).add j = ⟨b, o + j, none⟩ := fun b o j => by unfold Addr.add; split <;> simp_all
    have hbv : (byteZ zs).length = zs.length := by unfold byteZ; simp
    have hcs : ∀ j u, (byteZ zs)[j]? = some u → w.cell? ((⟨b, off, none⟩ : Addr).add j) = some u := by
      intro j u hj
      have hjl : j < zs.length := by
        rcases Nat.lt_or_ge j zs.length with h | h
        · exact h
        · rw [List.getElem?_eq_none (by omega)] at hj; cases hj
      rw [byteZ_get zs j hjl] at hj; injection hj with hj
      rw [hadd, ← hj]; exact hc j hjl
    have hsrc : Src Tryz.prog i0.size 22 (.slice (some ⟨b, off, none⟩) zs.length cap) zs.length (byteZ zs) w :=
      Src.ofSlice (P := Tryz.prog) w (e' := 5) Tryz.underlying22 ⟨b, off, none⟩ zs.length cap (byteZ zs) (by rw [hz1, hbv, Nat.mul_one]) hcs (fun u hu => by
        unfold byteZ at hu; obtain ⟨_, _, rfl⟩ := List.mem_map.1 hu; rfl)
    have hold := (Src.ofSlice (P := Tryz.prog) (size := i0.size) w (e' := 5) Tryz.underlying22 ⟨bb, 0, none⟩ 1 1 [.int .u8 z] (by rw [hz1]; rfl) (fun j u hj => by
        have : j = 0 := by
          rcases Nat.eq_zero_or_pos j with h | h
          · exact h
          · rw [List.getElem?_eq_none (by simp; omega)] at hj; cases hj
        subst this
        simp at hj; rw [hadd, ← hj]; simpa using hb) (fun u hu => by simp at hu; rw [hu]; rfl)).cellsD
    have hr := run_append_grow_src (P := Tryz.prog) w 22 22 ty 5 i0 _ Tryz.underlying22 hi hz0 (some ⟨bb, 0, none⟩) 1 1 [.int .u8 z] hold (.slice (some ⟨b, off, none⟩) zs.length cap) zs.length (byteZ zs) hsrc (by omega) (by omega) (by rw [hz2]; have := nextslicecap_le (need := 1 + zs.length) (old := 1) (by omega); omega)
    refine ⟨w.heap.size, _, _, by rw [hlen]; exact hr, ⟨.inr ⟨w.heap.size, 0, rfl, by simp, fun i hi => ?_⟩, hbytes, hle⟩, (Below.refl _ _).drew.alloc (by simp) _⟩
    have hs0 : w.drew.heap.size = w.heap.size := rfl
    have hcell : ∀ (W : World) (cs : Array Value) (T : TypeId) (j : Nat), (W.alloc (.cells cs T)).cell? ⟨W.heap.size, j, none⟩ = cs[j]? := fun W cs T j => World.cell?_alloc_new W cs T j
    rw [Nat.zero_add, ← hs0, hcell, Array.getElem?_append_left (by rw [List.size_toArray, List.length_append, hbv]; simp at hi ⊢; omega)]
    match i, hi with
    | 0, _ => simp
    | i + 1, hi => simpa using byteZ_get zs i (by simpa using hi)

theorem wpList_appZ_bytes {w : World} {ops : Array Oper} {rest : List Oper} {o : Oper} {a : Act} {Q : Exit → Act → World → Prop} (hgd : o.guard = none) (s x : Operand)
    (ho : o.op = .call { callee := .builtin .append, args := #[s, x], argTypes := #[22, 22] }) (z : Int) (hz : 0 ≤ z ∧ z < 256) (bb : Nat) (xx : Option Addr) (cap : Nat) (zs : List Int)
    (hs : a.eval s = .slice (some ⟨bb, 0, none⟩) 1 1) (hx : a.eval x = .slice xx zs.length cap) (hb : w.cell? ⟨bb, 0, none⟩ = some (.int .u8 z)) (hbl : bb < w.heap.size) (h : InC w xx zs) (hl : zs.length ≤ 1048576)
    (hK : ∀ g c' w' nz, nz = (z :: zs : List Int).length → InC w' (some ⟨g, 0, none⟩) (z :: zs) → Below w.heap.size w w' → wpList Tryz.prog ops Q rest (a.put o.dst (.slice (some ⟨g, 0, none⟩) nz c')) w') :
    wpList Tryz.prog ops Q (o :: rest) a w := by
  refine wpList_plain hgd fun K hK2 => ?_
  obtain ⟨g, c', w', hr, h2, h3⟩ := appZ_bytes z hz bb xx cap zs w o.type hb hbl h hl
  unfold Oper.wp execOp
  simp only [ho, resolve, invoke, builtin, Sem.run_bind, Sem.run_pure, Result.andThen_ok, List.map_toArray, List.map_cons, List.map_nil, hs, hx, hr]
  exact hK2 _ _ (hK g c' w' _ rfl h2 h3)

end Go.Proofs.YtdchhjnmhnehiaaGreatDoor

/- A drawn definition: its first part's path is a right one. -/
namespace Go.Proofs.YtdchhjnmhnehiaaGreatDoor
open Go.RowKit Tr
set_option linter.unusedVariables false
variable {w W W' : World} {g : Nat} {x : Option Addr} {cap : Nat} {zs : List Int} {a b bd gp : Nat} {nm pa : ByteArray} {de : Bool} {vq : Value}

theorem cell_off {W : World} {b c o p : Nat} {v : Value} (h : b ≠ c) : (W.setCell ⟨c, o, none⟩ v).cell? ⟨b, p, none⟩ = W.cell? ⟨b, p, none⟩ := by
  have : c ≠ b := fun e => h e.symm
  simp [World.cell?, World.setCell, Array.getElem?_modify, this]
/-- A definition that is being drawn, with one part. -/
structure DD (w W : World) (g : Nat) (x : Option Addr) (cap : Nat) (zs : List Int) (a bd gp : Nat) (nm pa : ByteArray) (de : Bool) : Prop where
  dr : Drew w g x cap zs a W
  rb : W.heap[w.heap.size]? = some (.cells #[.string em, .slice none 0 0] 31)
  db : W.heap[bd]? = some (.cells #[.string nm, .slice (some ⟨gp, 0, none⟩) 1 1] 31)
  own : W.ownsRow (w.heap.size + 1) 28 2 (.slice (some ⟨gp, 0, none⟩) 1 1) 1 [.string pa, .bool de]
  ge : w.heap.size < bd
  ne : gp ≠ bd
theorem DD.lt (X : DD w W g x cap zs a bd gp nm pa de) : bd < W.heap.size := (Array.getElem?_eq_some_iff.1 X.db).1
theorem DD.cd (X : DD w W g x cap zs a bd gp nm pa de) : W.cell? ⟨bd, 1, none⟩ = some (.slice (some ⟨gp, 0, none⟩) 1 1) := by simp [World.cell?, X.db]
theorem DD.drew (X : DD w W g x cap zs a bd gp nm pa de) (hg : g < w.heap.size) (d : Drew W g x cap zs b W') : DD w W' g x cap zs b bd gp nm pa de := by
  have hlt := X.lt
  have hge := X.ge
  have hb : ∀ j, w.heap.size ≤ j → j < W.heap.size → W'.heap[j]? = W.heap[j]? := fun j h1 h2 => d.1.block j h2 (fun e => by injection e with e; omega)
  refine ⟨X.dr.trans d, (hb _ (by omega) (by omega)).trans X.rb, (hb _ (by omega) hlt).trans X.db, World.ownsRow.kept X.own d.1 ?_, X.ge, X.ne⟩
  exact .inr (fun e => by have h1 := (X.own.lt gp rfl).1; have h2 : gp = g := by simpa [Value.ownBlock] using e
                          omega)
theorem DD.alloc (hc : CodeAt w g x zs) (X : DD w W g x cap zs a bd gp nm pa de) (o : Obj) : DD w (W.alloc o) g x cap zs a bd gp nm pa de := by
  have hb : Below W.heap.size W (W.alloc o) := (Below.refl _ _).alloc (Nat.le_refl _) _
  have hlt := X.lt
  have hge := X.ge
  exact ⟨Drew.allocd hc X.dr o, (hb.block _ (by omega)).trans X.rb, (hb.block _ hlt).trans X.db, owns_below X.own hb, X.ge, X.ne⟩
/-- A definition that is drawn. -/
structure DQ (w W : World) (g : Nat) (x : Option Addr) (cap : Nat) (zs : List Int) (a bd : Nat) (nm : ByteArray) (vq : Value) (pa : ByteArray) (de : Bool) : Prop where
  dr : Drew w g x cap zs a W
  rb : W.heap[w.heap.size]? = some (.cells #[.string em, .slice none 0 0] 31)
  db : W.heap[bd]? = some (.cells #[.string nm, vq] 31)
  own : ∀ gq n c, vq = .slice (some ⟨gq, 0, none⟩) n c → w.heap.size + 1 ≤ gq ∧ gq < W.heap.size
  frm : ∃ gq n c, vq = .slice (some ⟨gq, 0, none⟩) n c ∧ 1 ≤ n ∧ W.cell? ⟨gq, 0, none⟩ = some (.string pa) ∧ W.cell? ⟨gq, 1, none⟩ = some (.bool de)
  ge : w.heap.size < bd
theorem part_new (w : World) (p : Prt) : ∀ (j : Nat) (u : Value), (rowD p)[j]? = some u → (w.alloc (.cells #[.string p.path, .bool p.desc] 28)).cell? ((⟨w.heap.size, 0, none⟩ : Addr).add j) = some u := by
  intro j u hj
  match j, hj with
  | 0, hj => simp [rowD] at hj; subst hj; simp [Addr.add, go_sem]
  | 1, hj => simp [rowD] at hj; subst hj; simp [Addr.add, go_sem]
  | j + 2, hj => simp [rowD] at hj
theorem part_cells (p : Prt) : ∀ u ∈ rowD p, u.oneCell' = true := by intro u hu; simp [rowD] at hu; rcases hu with rfl | rfl <;> rfl

/-- The answer's box of a definition that is being drawn. -/
structure RD (w W : World) (g : Nat) (x : Option Addr) (cap : Nat) (zs : List Int) (a : Nat) : Prop where
  dr : Drew w g x cap zs a W
  rb : W.heap[w.heap.size]? = some (.cells #[.string em, .slice none 0 0] 31)
theorem RD.lt (X : RD w W g x cap zs a) : w.heap.size < W.heap.size := (Array.getElem?_eq_some_iff.1 X.rb).1
theorem RD.start (hc : CodeAt w g x zs) (h : SrcAt w g x cap zs a) : RD w (w.alloc (.cells #[.string em, .slice none 0 0] 31)) g x cap zs a :=
  ⟨Drew.allocd hc ⟨⟨rfl, rfl, rfl, Nat.le_refl _, fun _ _ _ => rfl⟩, h⟩ _, heap_alloc_new w _⟩
theorem RD.alloc (hc : CodeAt w g x zs) (X : RD w W g x cap zs a) (o : Obj) : RD w (W.alloc o) g x cap zs a := by
  have hb : Below W.heap.size W (W.alloc o) := (Below.refl _ _).alloc (Nat.le_refl _) _
  exact ⟨Drew.allocd hc X.dr o, (hb.block _ X.lt).trans X.rb⟩
theorem RD.drew (X : RD w W g x cap zs a) (hg : g < w.heap.size) (d : Drew W g x cap zs b W') : RD w W' g x cap zs b :=
  ⟨X.dr.trans d, (d.1.block _ X.lt (fun e => by injection e with e; omega)).trans X.rb⟩
theorem DD.start (hc : CodeAt w g x zs) (X : RD w W g x cap zs a) (nm pa : ByteArray) (de : Bool) : DD w ((W.alloc (.cells #[.string pa, .bool de] 28)).alloc (.cells #[.string nm, .slice (some ⟨W.heap.size, 0, none⟩) 1 1] 31)) g x cap zs a (W.heap.size + 1) W.heap.size nm pa de := by
  have hlt := X.lt
  have Y := (X.alloc hc (.cells #[.string pa, .bool de] 28)).alloc hc (.cells #[.string nm, .slice (some ⟨W.heap.size, 0, none⟩) 1 1] 31)
  have n2 := heap_alloc_new (W.alloc (.cells #[.string pa, .bool de] 28)) (.cells #[.string nm, .slice (some ⟨W.heap.size, 0, none⟩) 1 1] 31)
  rw [heap_size_alloc] at n2
  have o1 : (W.alloc (.cells #[.string pa, .bool de] 28)).ownsRow (w.heap.size + 1) 28 2 (.slice (some ⟨W.heap.size, 0, none⟩) 1 1) 1 [.string pa, .bool de] :=
    ⟨rfl, .inr ⟨W.heap.size, 1, _, rfl, by omega, heap_alloc_new W _, Nat.le_refl _, by unfold maxLen; omega, rfl, rfl⟩⟩
  exact ⟨Y.dr, Y.rb, n2, owns_below o1 ((Below.refl _ _).alloc (Nat.le_refl _) _), by omega, by omega⟩
theorem DD.dq (X : DD w W g x cap zs a bd gp nm pa de) : DQ w W g x cap zs a bd nm (.slice (some ⟨gp, 0, none⟩) 1 1) pa de := by
  refine ⟨X.dr, X.rb, X.db, fun gq n c e => ?_, ⟨gp, 1, 1, rfl, Nat.le_refl _, owns_cell X.own 0 _ rfl, owns_cell X.own 1 _ rfl⟩, X.ge⟩
  injection e with e1
  injection e1 with e1
  injection e1 with e1
  subst e1
  exact X.own.lt gp rfl
theorem DD.fin (hc : CodeAt w g x zs) (hg : g < w.heap.size) (X : DD w W g x cap zs a bd gp nm pa de) {gq cq : Nat} {p2 : ByteArray} {b2 : Bool} (ho : W'.ownsRow (w.heap.size + 1) 28 2 (.slice (some ⟨gq, 0, none⟩) 2 cq) 2 ([.string pa, .bool de] ++ rowD ⟨p2, b2⟩)) (k : W.grownBy W' (some gp)) (hat : gq = gp ∨ gq = W.heap.size) : DQ w (W'.setCell ⟨bd, 1, none⟩ (.slice (some ⟨gq, 0, none⟩) 2 cq)) g x cap zs a bd nm (.slice (some ⟨gq, 0, none⟩) 2 cq) pa de := by
  have hlt := X.lt
  have hge := X.ge
  have hgp := X.own.lt gp rfl
  have hne : gq ≠ bd := by
    rcases hat with e | e
    · rw [e]; exact X.ne
    · omega
  have hdb : W'.heap[bd]? = some (.cells #[.string nm, .slice (some ⟨gp, 0, none⟩) 1 1] 31) := (k.block _ hlt (fun e => X.ne (by injection e with e; exact e.symm))).trans X.db
  have hrb : W'.heap[w.heap.size]? = some (.cells #[.string em, .slice none 0 0] 31) := (k.block _ (by omega) (fun e => by injection e with e; omega)).trans X.rb
  have d1 := Drew.ext hc hg X.dr k (fun j hj => by injection hj with hj; omega)
  have hs : W'.grownBy (W'.setCell ⟨bd, 1, none⟩ (.slice (some ⟨gq, 0, none⟩) 2 cq)) (some bd) := grown_set
  refine ⟨Drew.ext hc hg d1 hs (fun j hj => by injection hj with hj; omega), (hs.block _ (by have := k.size; omega) (fun e => by injection e with e; omega)).trans hrb, by rw [set_block hdb]; rfl, fun gq' n c e => ?_, ⟨gq, 2, cq, rfl, by omega, ?_, ?_⟩, X.ge⟩
  · injection e with e1
    injection e1 with e1
    injection e1 with e1
    subst e1
    have := ho.lt gq rfl
    exact ⟨this.1, by simpa using this.2⟩
  · rw [cell_off hne]; exact owns_cell ho 0 _ rfl
  · rw [cell_off hne]; exact owns_cell ho 1 _ rfl
/-- One part behind a row of parts of the call's own, as a step of a region of open order. -/
theorem step_appPt {ops : Array Oper} {o : Oper} {a : Act} {w : World} {K : Act → World → Prop} {Q : Exit → Act → World → Prop} {E : Prop} (hgd : o.guard = none) (s x : Operand)
    (ho : o.op = .call { callee := .builtin .append, args := #[s, x], argTypes := #[29, 29] }) (base n : Nat) (v : Value) (xs : List Value)
    (hs : a.eval s = v) (hown : w.ownsRow base 28 2 v n xs) (t : Prt) (ad : Nat) (hx : a.eval x = .slice (some ⟨ad, 0, none⟩) 1 1) (hc : ∀ (j : Nat) (u : Value), (rowD t)[j]? = some u → w.cell? ((⟨ad, 0, none⟩ : Addr).add j) = some u) (hn : n ≤ 1000000) (hbase : base ≤ w.heap.size)
    (hK : ∀ v' w', w'.ownsRow base 28 2 v' (n + 1) (xs ++ rowD t) → w.grownBy w' v.ownBlock → (¬ v' = .slice none 0 0) → (v'.ownBlock = v.ownBlock ∨ v'.ownBlock = some w.heap.size) → K (a.put o.dst v') w') :
    if Region.wanted o (yielded ops a.tmps) = true then Oper.wp Tryz.prog o a w K Q else E := by
  have hw : Region.wanted o (yielded ops a.tmps) = true := by simp [Region.wanted, hgd]
  rw [if_pos hw]
  obtain ⟨i0, hi, hz0, hz1, hz2⟩ := info_parts infoD
  obtain ⟨v', w', hr, h2, h3, h4, h5⟩ := run_append_own_at (P := Tryz.prog) w base 29 o.type 28 i0 (.agg #[.string em, .bool false]) 2 24 Tryz.underlying29 hi hz0 hz1 hz2 rfl (by decide) v n xs hown ⟨ad, 0, none⟩ 1 1 (rowD t) rfl hc (part_cells t) (by unfold maxLen; omega) (by omega) hbase
  unfold Oper.wp execOp
  simp only [ho, resolve, invoke, builtin, Sem.run_bind, Sem.run_pure, Result.andThen_ok, List.map_toArray, List.map_cons, List.map_nil, hs, hx, hr]
  exact hK _ _ h2 h3 (fun e => by have := (h4.mp e).2; simp at this) h5
theorem paths4 : ∀ p ∈ ([⟨#[97]⟩, ⟨#[98]⟩, ⟨#[116, 97, 103, 115]⟩, ⟨#[97, 46, 98]⟩] : List ByteArray), pathB p = true := by decide +kernel

end Go.Proofs.YtdchhjnmhnehiaaGreatDoor

/- A drawn definition, walked: its first part's path is a right one. -/
namespace Go.Proofs.YtdchhjnmhnehiaaGreatDoor
open Go.RowKit Tr
set_option linter.unusedVariables false

/-- What a drawn definition is known to hold. -/
def DefR (B : Nat) (e : Ending) (w' : World) : Prop := ∃ (nm : ByteArray) (gq n c : Nat) (pa : ByteArray) (de : Bool), e = .returned (.agg #[.string nm, .slice (some ⟨gq, 0, none⟩) n c]) ∧ 1 ≤ n ∧ pathB pa = true ∧ gq < w'.heap.size ∧ B ≤ gq ∧ w'.cell? ⟨gq, 0, none⟩ = some (.string pa) ∧ w'.cell? ⟨gq, 1, none⟩ = some (.bool de)
set_option maxRecDepth 8000 in
set_option maxHeartbeats 8000000 in
theorem def_at (g : Nat) (x : Option Addr) (cap : Nat) (zs : List Int) (a : Nat) (w : World) (h : SrcAt w g x cap zs a) (ha : a + 100 ≤ 100000) :
    Calls Tryz.prog 25 #[.pointer (some ⟨g, 0, none⟩)] w fun e w' => DefR (w.heap.size + 1) e w' ∧ Drew w g x cap zs (a + 100) w' := by
  have hg := h.lt
  have HC : Hid (CodeAt w g x zs) := h.code
  have HX0 : Hid (RD w ((w.alloc (.cells #[.string em, .slice none 0 0] 31)).alloc (.cells #[.string ⟨#[111, 110, 101]⟩, .string ⟨#[116, 119, 111]⟩] 9)) g x cap zs a) := (RD.start h.code h).alloc h.code _
  clear h
  go_enter Tryz.func25, Tryz.ntmps25
  go_wp2_with fail
  refine (pick_any g x cap zs a (w.heap.size + 1) 2 [⟨#[111, 110, 101]⟩, ⟨#[116, 119, 111]⟩] _ HX0.out.dr.2 (by omega) (by decide) (by decide) (by omega) (by intro i hi; rcases (show i = 0 ∨ i = 1 by simp at hi; omega) with rfl | rfl <;> simp [go_sem])).mono ?_
  rintro e w1 ⟨⟨nm, hnm, rfl⟩, d1⟩
  have hw1 : w.heap.size < w1.heap.size := (HX0.out.drew hg d1).lt
  have HX1 : Hid (RD w (w1.alloc (.cells #[.string ⟨#[97]⟩, .string ⟨#[98]⟩, .string ⟨#[116, 97, 103, 115]⟩, .string ⟨#[97, 46, 98]⟩] 9)) g x cap zs (a + 1)) := (HX0.out.drew hg d1).alloc HC.out _
  clear d1 hnm HX0
  go_wp2_with fail
  refine (pick_any g x cap zs (a + 1) w1.heap.size 4 [⟨#[97]⟩, ⟨#[98]⟩, ⟨#[116, 97, 103, 115]⟩, ⟨#[97, 46, 98]⟩] _ HX1.out.dr.2 (by omega) (by decide) (by decide) (by omega) (by intro i hi; rcases (show i = 0 ∨ i = 1 ∨ i = 2 ∨ i = 3 by simp at hi; omega) with rfl | rfl | rfl | rfl <;> simp [go_sem])).mono ?_
  rintro e w2 ⟨⟨pa, hpa, rfl⟩, d2⟩
  have HPA : Hid (pathB pa = true) := paths4 pa hpa
  have HX2 : Hid (RD _ _ _ _ _ _ _) := HX1.out.drew hg d2
  clear d2 hpa HX1
  go_wp2_with fail
  refine (chance_any g x cap zs (a + 1 + 1) 3 _ HX2.out.dr.2 (by omega) (by decide) (by decide)).mono ?_
  rintro e w3 ⟨⟨de, rfl⟩, d3⟩
  have X3 := HX2.out.drew hg d3
  have HZ4 : Hid (DD _ _ _ _ _ _ _ _ _ _ _ _) := DD.start HC.out X3 nm pa de
  have hw3 := X3.lt
  clear d3 HX2 X3
  go_wp2_with fail
  generalize (w3.alloc (.cells #[.string pa, .bool de] 28)).alloc (.cells #[.string nm, .slice (some ⟨w3.heap.size, 0, none⟩) 1 1] 31) = W4 at HZ4 ⊢
  obtain ⟨gp, hgp⟩ : ∃ gp, gp = w3.heap.size := ⟨_, rfl⟩
  obtain ⟨bd, hbd⟩ : ∃ bd, bd = w3.heap.size + 1 := ⟨_, rfl⟩
  rw [← hbd, ← hgp] at HZ4
  try rw [← hbd]
  try rw [← hgp]
  have hbw : w.heap.size < bd := by omega
  clear hgp hbd hw3
  refine (chance_any g x cap zs (a + 1 + 1 + 1) 3 _ HZ4.out.dr.2 (by omega) (by decide) (by decide)).mono ?_
  rintro e w5 ⟨⟨b5, rfl⟩, d5⟩
  have HZ : Hid (DD _ _ _ _ _ _ _ _ _ _ _ _) := HZ4.out.drew hg d5
  clear d5 HZ4
  cases b5
  · have HQ5 : Hid (DQ _ _ _ _ _ _ _ _ _ _ _ _) := HZ.out.dq
    have hgp1 := HZ.out.own.lt gp rfl
    clear HZ
    have q0 : (w5).cell? ⟨bd, 0, none⟩ = some (.string nm) := by simp [World.cell?, HQ5.out.db]
    have q1 : (w5).cell? ⟨bd, 1, none⟩ = some (.slice (some ⟨gp, 0, none⟩) 1 1) := by simp [World.cell?, HQ5.out.db]
    have r0 : (w5).cell? ⟨w.heap.size, 0, none⟩ = some (.string em) := by simp [World.cell?, HQ5.out.rb]
    have r1 : (w5).cell? ⟨w.heap.size, 1, none⟩ = some (.slice none 0 0) := by simp [World.cell?, HQ5.out.rb]
    have z0 : (w5).frozen? ⟨w.heap.size, 0, none⟩ = false := by simp [World.frozen?, HQ5.out.rb]
    have z1 : (w5).frozen? ⟨w.heap.size, 1, none⟩ = false := by simp [World.frozen?, HQ5.out.rb]
    have hql : bd < (w5).heap.size := (Array.getElem?_eq_some_iff.1 HQ5.out.db).1
    have hqr : w.heap.size < (w5).heap.size := (Array.getElem?_eq_some_iff.1 HQ5.out.rb).1
    obtain ⟨hg1, hg2⟩ := HQ5.out.own gp 1 1 rfl
    obtain ⟨gz, nz, cz, ez, hz1, hc0, hc1⟩ := HQ5.out.frm
    injection ez with ez1 ez2 ez3
    injection ez1 with ez1
    injection ez1 with ez1
    subst ez1
    have HC0 : Hid (_ = _) := hc0
    have HC1 : Hid (_ = _) := hc1
    have HQD : Hid (Drew _ _ _ _ _ _ _) := HQ5.out.dr
    clear HQ5 hc0 hc1 ez2 ez3 hz1
    generalize w5 = WQ at q0 q1 r0 r1 z0 z1 hql hqr hg2 HC0 HC1 HQD ⊢
    go_wp2_with fail
    refine bodyPost_ret (v := .agg #[.string nm, .slice (some ⟨gp, 0, none⟩) 1 1]) (by simp [results, Tryz.results25, go_sem, *]) rfl ⟨⟨nm, gp, 1, 1, pa, de, rfl, by omega, HPA.out, ?_, ?_, ?_, ?_⟩, ?_⟩
    · simpa using hg2
    · exact hg1
    · rw [cell_off (by omega), cell_off (by omega)]; exact HC0.out
    · rw [cell_off (by omega), cell_off (by omega)]; exact HC1.out
    · exact Drew.setR HC.out hg (Drew.setR HC.out hg (Drew.more HQD.out (by omega)) 0 _) 1 _
  · have HZd : Hid (DD w w5.drew g x cap zs _ bd gp nm pa de) := HZ.out.drew hg (drew_self HZ.out.dr.2)
    have hl5 := HZ.out.lt
    have c5' := HZ.out.cd
    have hw5 : g < w5.heap.size := HZ.out.dr.2.lt
    have hgw5 : w.heap.size < w5.heap.size := by omega
    clear HZ
    go_wp2_with fail
    refine Lg.wp_region_last2 (S := fun w0 => w0.cell? ⟨bd, 1, none⟩ = some (.slice (some ⟨gp, 0, none⟩) 1 1)) 11 (by kernel_rfl) rfl (by kernel_rfl) HZd.out.cd (fun hHeld => ?_)
    simp only [List.take_succ_cons, List.take_zero]
    refine Lg.take_at (i := 0) (v := ?_) .zero (by kernel_rfl) (by kernel_rfl) (by kernel_rfl) (fun _ _ _ h => h) (Or.inl ⟨by rfl, ?_⟩) (by assumption) ?_
    rotate_left
    focus (intro w' hSw; (try dsimp only at hSw); go_simp; try (with_reducible rfl))
    try simp only [Act.put, List.setIfInBounds_toArray, List.set_cons_zero, List.set_cons_succ]
    refine Lg.take_at (i := 1) (v := ?_) (.succ .zero) (by kernel_rfl) (by kernel_rfl) (by kernel_rfl) (fun _ _ _ h => h) (Or.inl ⟨by rfl, ?_⟩) (by assumption) ?_
    rotate_left
    focus (intro w' hSw; (try dsimp only at hSw); go_simp; try (with_reducible rfl))
    try simp only [Act.put, List.setIfInBounds_toArray, List.set_cons_zero, List.set_cons_succ]
    refine Lg.take_at (i := 2) (v := ?_) (.succ (.succ .zero)) (by kernel_rfl) (by kernel_rfl) (by kernel_rfl) (fun _ _ _ h => h) (Or.inl ⟨by rfl, ?_⟩) (by assumption) ?_
    rotate_left
    focus (intro w' hSw; (try dsimp only at hSw); go_simp; try (with_reducible rfl))
    try simp only [Act.put, List.setIfInBounds_toArray, List.set_cons_zero, List.set_cons_succ]
    refine Lg.take_at (i := 5) (v := ?_) (.succ (.succ (.succ (.succ (.succ .zero))))) (by kernel_rfl) (by kernel_rfl) (by kernel_rfl) (fun _ _ _ h => h) (Or.inl ⟨by rfl, ?_⟩) (by assumption) ?_
    rotate_left
    focus (intro w' hSw; (try dsimp only at hSw); go_simp; try (with_reducible rfl))
    try simp only [Act.put, List.setIfInBounds_toArray, List.set_cons_zero, List.set_cons_succ]
    refine wpAnyH_ready (rs := [3]) (by kernel_rfl) (by simp) ?_
    refine (Lg.cons_at (i := 3) (.succ (.succ (.succ .zero))) (fun K hK => ?_) AllReadyH.nil)
    go_simp
    have HZ6 : Hid (DD w (w5.drew.alloc (.cells #[.string ⟨#[99]⟩, .string ⟨#[105, 100]⟩] 9)) g x cap zs _ bd gp nm pa de) := HZd.out.alloc HC.out _
    refine hK.out _ _ ?_ ?_
    focus exact HZ6.out.cd
    clear hK K hHeld
    intro hHeld
    try simp only [Act.put, List.setIfInBounds_toArray, List.set_cons_zero, List.set_cons_succ]
    refine wpAnyH_ready (rs := [4]) (by kernel_rfl) (by simp) ?_
    refine (Lg.cons_at (i := 4) (.succ (.succ (.succ (.succ .zero)))) (fun K hK => ?_) AllReadyH.nil)
    go_simp
    refine (pick_any g x cap zs _ w5.heap.size 2 [⟨#[99]⟩, ⟨#[105, 100]⟩] _ HZ6.out.dr.2 (by omega) (by decide) (by decide) (by omega) (by intro i hi; rcases (show i = 0 ∨ i = 1 by simp at hi; omega) with rfl | rfl <;> simp [go_sem])).mono ?_
    rintro e w7 ⟨⟨p2, hp2, rfl⟩, d7⟩
    have HZ7 : Hid (DD _ _ _ _ _ _ _ _ _ _ _ _) := HZ6.out.drew hg d7
    clear d7 hp2
    try go_wp2_with fail
    refine hK.out _ _ ?_ ?_
    focus exact HZ7.out.cd
    clear hK K hHeld
    intro hHeld
    try simp only [Act.put, List.setIfInBounds_toArray, List.set_cons_zero, List.set_cons_succ]
    refine wpAnyH_ready (rs := [6]) (by kernel_rfl) (by simp) ?_
    refine (Lg.cons_at (i := 6) (.succ (.succ (.succ (.succ (.succ (.succ .zero)))))) (fun K hK => ?_) AllReadyH.nil)
    go_simp
    refine (chance_any g x cap zs _ 3 _ HZ7.out.dr.2 (by omega) (by decide) (by decide)).mono ?_
    rintro e w8 ⟨⟨b2, rfl⟩, d8⟩
    have HZ8 : Hid (DD _ _ _ _ _ _ _ _ _ _ _ _) := HZ7.out.drew hg d8
    clear d8
    try go_wp2_with fail
    refine hK.out _ _ ?_ ?_
    focus exact HZ8.out.cd
    clear hK K hHeld
    intro hHeld
    try simp only [Act.put, List.setIfInBounds_toArray, List.set_cons_zero, List.set_cons_succ]
    refine Lg.take_at (i := 7) (v := ?_) (.succ (.succ (.succ (.succ (.succ (.succ (.succ .zero))))))) (by kernel_rfl) (by kernel_rfl) (by kernel_rfl) (fun _ _ _ h => h) (Or.inl ⟨by rfl, ?_⟩) (by assumption) ?_
    rotate_left
    focus (intro w' hSw; (try dsimp only at hSw); go_simp; try (with_reducible rfl))
    try simp only [Act.put, List.setIfInBounds_toArray, List.set_cons_zero, List.set_cons_succ]
    refine wpAnyH_ready (rs := [8]) (by kernel_rfl) (by simp) ?_
    refine (Lg.cons_at (i := 8) (.succ (.succ (.succ (.succ (.succ (.succ (.succ (.succ .zero)))))))) (fun K hK => ?_) AllReadyH.nil)
    go_simp
    have HZ9 : Hid (DD w (w8.alloc (.cells #[.string p2, .bool b2] 28)) g x cap zs _ bd gp nm pa de) := HZ8.out.alloc HC.out _
    refine hK.out _ _ ?_ ?_
    focus exact HZ9.out.cd
    clear hK K hHeld
    intro hHeld
    try simp only [Act.put, List.setIfInBounds_toArray, List.set_cons_zero, List.set_cons_succ]
    refine wpAnyH_ready (rs := [9]) (by kernel_rfl) (by simp) ?_
    refine (Lg.cons_at (i := 9) (.succ (.succ (.succ (.succ (.succ (.succ (.succ (.succ (.succ .zero))))))))) (fun K hK => ?_) AllReadyH.nil)
    refine step_appPt rfl (.tmp 18) (.tmp 25) rfl (w.heap.size + 1) 1 (.slice (some ⟨gp, 0, none⟩) 1 1) [.string pa, .bool de] rfl HZ9.out.own ⟨p2, b2⟩ w8.heap.size rfl (part_new _ ⟨p2, b2⟩) (by omega) (by have := HZ9.out.lt; have := HZ9.out.ge; omega) ?_
    intro v5 wA o5 k5 n5 at5
    obtain ⟨gq, cq, hv5⟩ := owns_shape o5 n5
    subst hv5
    have k6 : (w8.alloc (.cells #[.string p2, .bool b2] 28)).grownBy wA (some gp) := k5
    have hat : gq = gp ∨ gq = (w8.alloc (.cells #[.string p2, .bool b2] 28)).heap.size := by rcases at5 with e | e <;> simp [Value.ownBlock] at e <;> simp [e]
    have hcb : wA.heap[bd]? = some (.cells #[.string nm, .slice (some ⟨gp, 0, none⟩) 1 1] 31) := (k6.block _ HZ9.out.lt (fun e => HZ9.out.ne (by injection e with e; exact e.symm))).trans HZ9.out.db
    have c5 : wA.cell? ⟨bd, 1, none⟩ = some (.slice (some ⟨gp, 0, none⟩) 1 1) := by simp [World.cell?, hcb]
    have f5 : wA.frozen? ⟨bd, 1, none⟩ = false := by simp [World.frozen?, hcb]
    have hl5 : bd < wA.heap.size := Nat.lt_of_lt_of_le HZ9.out.lt k6.size
    have HQ5 : Hid (DQ w (wA.setCell ⟨bd, 1, none⟩ (.slice (some ⟨gq, 0, none⟩) 2 cq)) g x cap zs _ bd nm (.slice (some ⟨gq, 0, none⟩) 2 cq) pa de) := HZ9.out.fin HC.out hg o5 k6 hat
    clear o5 k5 k6 n5 at5 hat hcb
    refine hK.out _ _ ?_ ?_
    focus exact c5
    clear hK K hHeld
    intro hHeld
    try simp only [Act.put, List.setIfInBounds_toArray, List.set_cons_zero, List.set_cons_succ]
    refine Lg.take_at (i := 10) (v := ?_) (.succ (.succ (.succ (.succ (.succ (.succ (.succ (.succ (.succ (.succ .zero)))))))))) (by kernel_rfl) (by kernel_rfl) (by kernel_rfl) (fun _ _ _ h => h) (Or.inl ⟨by rfl, ?_⟩) (by assumption) ?_
    rotate_left
    focus (intro w' hSw; (try dsimp only at hSw); go_simp; try (with_reducible rfl))
    try simp only [Act.put, List.setIfInBounds_toArray, List.set_cons_zero, List.set_cons_succ]
    refine wpAnyH_done (by kernel_rfl) ?_ _
    refine Lg.last_at (.succ (.succ (.succ (.succ (.succ (.succ (.succ (.succ (.succ (.succ (.succ .zero))))))))))) (fun K hK => ?_)
    go_simp
    refine hK.out _ _ ?_
    clear hK K
    have q0 : (wA.setCell ⟨bd, 1, none⟩ (.slice (some ⟨gq, 0, none⟩) 2 cq)).cell? ⟨bd, 0, none⟩ = some (.string nm) := by simp [World.cell?, HQ5.out.db]
    have q1 : (wA.setCell ⟨bd, 1, none⟩ (.slice (some ⟨gq, 0, none⟩) 2 cq)).cell? ⟨bd, 1, none⟩ = some (.slice (some ⟨gq, 0, none⟩) 2 cq) := by simp [World.cell?, HQ5.out.db]
    have r0 : (wA.setCell ⟨bd, 1, none⟩ (.slice (some ⟨gq, 0, none⟩) 2 cq)).cell? ⟨w.heap.size, 0, none⟩ = some (.string em) := by simp [World.cell?, HQ5.out.rb]
    have r1 : (wA.setCell ⟨bd, 1, none⟩ (.slice (some ⟨gq, 0, none⟩) 2 cq)).cell? ⟨w.heap.size, 1, none⟩ = some (.slice none 0 0) := by simp [World.cell?, HQ5.out.rb]
    have z0 : (wA.setCell ⟨bd, 1, none⟩ (.slice (some ⟨gq, 0, none⟩) 2 cq)).frozen? ⟨w.heap.size, 0, none⟩ = false := by simp [World.frozen?, HQ5.out.rb]
    have z1 : (wA.setCell ⟨bd, 1, none⟩ (.slice (some ⟨gq, 0, none⟩) 2 cq)).frozen? ⟨w.heap.size, 1, none⟩ = false := by simp [World.frozen?, HQ5.out.rb]
    have hql : bd < (wA.setCell ⟨bd, 1, none⟩ (.slice (some ⟨gq, 0, none⟩) 2 cq)).heap.size := (Array.getElem?_eq_some_iff.1 HQ5.out.db).1
    have hqr : w.heap.size < (wA.setCell ⟨bd, 1, none⟩ (.slice (some ⟨gq, 0, none⟩) 2 cq)).heap.size := (Array.getElem?_eq_some_iff.1 HQ5.out.rb).1
    obtain ⟨hg1, hg2⟩ := HQ5.out.own gq 2 cq rfl
    obtain ⟨gz, nz, cz, ez, hz1, hc0, hc1⟩ := HQ5.out.frm
    injection ez with ez1 ez2 ez3
    injection ez1 with ez1
    injection ez1 with ez1
    subst ez1
    have HC0 : Hid (_ = _) := hc0
    have HC1 : Hid (_ = _) := hc1
    have HQD : Hid (Drew _ _ _ _ _ _ _) := HQ5.out.dr
    clear HQ5 hc0 hc1 ez2 ez3 hz1
    generalize wA.setCell ⟨bd, 1, none⟩ (.slice (some ⟨gq, 0, none⟩) 2 cq) = WQ at q0 q1 r0 r1 z0 z1 hql hqr hg2 HC0 HC1 HQD ⊢
    go_wp2_with fail
    refine bodyPost_ret (v := .agg #[.string nm, .slice (some ⟨gq, 0, none⟩) 2 cq]) (by simp [results, Tryz.results25, go_sem, *]) rfl ⟨⟨nm, gq, 2, cq, pa, de, rfl, by omega, HPA.out, ?_, ?_, ?_, ?_⟩, ?_⟩
    · simpa using hg2
    · exact hg1
    · rw [cell_off (by omega), cell_off (by omega)]; exact HC0.out
    · rw [cell_off (by omega), cell_off (by omega)]; exact HC1.out
    · exact Drew.setR HC.out hg (Drew.setR HC.out hg (Drew.more HQD.out (by omega)) 0 _) 1 _

set_option maxRecDepth 4000 in
set_option maxHeartbeats 2000000 in
theorem defOf_any (x : Option Addr) (cap : Nat) (zs : List Int) (w : World) (h : InC w x zs) :
    Calls Tryz.prog 6 #[.slice x zs.length cap] w fun e w' => DefR (w.heap.size + 1) e w' ∧ Below w.heap.size w w' := by
  have b0 : Below w.heap.size w (w.alloc (.cells #[.string em, .slice none 0 0] 31)) := (Below.refl _ _).alloc (Nat.le_refl _) _
  have k0 := heap_alloc_new w (.cells #[.string em, .slice none 0 0] 31)
  have s0 : (w.alloc (.cells #[.string em, .slice none 0 0] 31)).heap.size = w.heap.size + 1 := by simp
  have HS : Hid (Calls _ _ _ _ _) := l00Source_any x cap zs (w.alloc (.cells #[.string em, .slice none 0 0] 31)) (h.step b0)
  clear h
  go_enter Tryz.func6, Tryz.ntmps6
  go_wp2_with fail
  generalize w.alloc (.cells #[.string em, .slice none 0 0] 31) = W0 at b0 k0 s0 HS ⊢
  refine HS.out.mono ?_
  rintro e w1 ⟨rfl, s1, b1⟩
  rw [s0] at s1 ⊢
  have k1 := (b1.block _ (by omega)).trans k0
  have B1 := b0.trans (b1.mono (by omega))
  have HSR : Hid (SrcAt _ _ _ _ _ _) := s1
  have hz1 := b1.size
  clear s1 b1 HS k0
  go_wp2_with fail
  refine (def_at (w.heap.size + 1) x cap zs 0 _ HSR.out (by decide)).mono ?_
  rintro e w2 ⟨⟨nm, gq, n, c, pa, de, rfl, hn, hpa, hlt2, hge, hc0, hc1⟩, d2⟩
  have k2 := (d2.1.block w.heap.size (by omega) (fun e => by injection e with e; omega)).trans k1
  have B2 : Below w.heap.size w w2 := Below.grown B1 d2.1 (by omega) (fun j hj => by injection hj with hj; omega)
  have HC0 : Hid (_ = _) := hc0
  have HC1 : Hid (_ = _) := hc1
  have HPA : Hid (pathB pa = true) := hpa
  have c0 : w2.cell? ⟨w.heap.size, 0, none⟩ = some (.string em) := by simp [World.cell?, k2]
  have c1 : w2.cell? ⟨w.heap.size, 1, none⟩ = some (.slice none 0 0) := by simp [World.cell?, k2]
  have f0 : w2.frozen? ⟨w.heap.size, 0, none⟩ = false := by simp [World.frozen?, k2]
  have f1 : w2.frozen? ⟨w.heap.size, 1, none⟩ = false := by simp [World.frozen?, k2]
  have hlt : w.heap.size < w2.heap.size := (Array.getElem?_eq_some_iff.1 k2).1
  have hge' : w.heap.size + 1 ≤ gq := by omega
  clear d2 HSR hc0 hc1 hpa
  go_wp2_with fail
  refine bodyPost_ret (v := .agg #[.string nm, .slice (some ⟨gq, 0, none⟩) n c]) (by simp [results, Tryz.results6, go_sem, *]) rfl ⟨⟨nm, gq, n, c, pa, de, rfl, hn, HPA.out, ?_, hge', ?_, ?_⟩, ?_⟩
  · simpa using hlt2
  · rw [cell_off (by omega), cell_off (by omega)]; exact HC0.out
  · rw [cell_off (by omega), cell_off (by omega)]; exact HC1.out
  · (repeat (first | (with_reducible exact Below.refl _ _) | (with_reducible assumption) | (with_reducible apply below_drewN) | (with_reducible apply Below.drew) | ((with_reducible refine Below.setCell ?_ ?_ _); rotate_left; focus (first | (simp; done) | (simp; omega) | omega)) | ((with_reducible refine Below.alloc ?_ ?_ _); rotate_left; focus (first | (simp; done) | (simp; omega) | omega))))

end Go.Proofs.YtdchhjnmhnehiaaGreatDoor

/- The law on bounds, walked (whole). -/
namespace Go.Proofs.YtdchhjnmhnehiaaGreatDoor
open Go.RowKit Tr Fi
set_option linter.unusedVariables false

theorem filt_sz (F : List (List Trm)) (h : filtB F = true) : F.length ≤ 1048576 ∧ ∀ l ∈ F, szC l := by
  unfold filtB at h
  rw [Bool.and_eq_true, decide_eq_true_eq] at h
  refine ⟨by omega, fun l hl => ?_⟩
  have hc := List.all_eq_true.1 h.2 l hl
  unfold clauseB at hc
  rw [Bool.and_eq_true, decide_eq_true_eq] at hc
  refine ⟨by omega, fun t ht => ?_⟩
  obtain ⟨h1, h2, _⟩ := okT_parts t (List.all_eq_true.1 hc.2 t ht)
  have := okB_size t.c h2
  exact ⟨by omega, by omega⟩
theorem one_def (pt : Prt) (h : pathB pt.path = true) : defB ⟨#[111, 110, 101]⟩ [pt] = true := by
  unfold defB
  have h1 : shortB ⟨#[111, 110, 101]⟩ = true := by decide +kernel
  rw [h1]
  simp only [List.length_cons, List.length_nil, List.all_cons, List.all_nil, Bool.and_true, Bool.true_and]
  have h2 : okPt pt = true := h
  rw [h2]
  rfl
theorem em_app (t : ByteArray) : em ++ t = t := by apply ba_ext; simp [em]
theorem docK_one (pt : Prt) (doc : Val) : docK [pt] doc = keysP pt doc := by
  show eachW [em] (keysP pt doc) = keysP pt doc
  unfold eachW
  simp only [List.flatMap_cons, List.flatMap_nil, List.append_nil]
  conv => rhs; rw [← List.map_id (keysP pt doc)]
  exact List.map_congr_left (fun t _ => em_app t)
theorem any_take (iv : Ivl) (L : List ByteArray) (j : Nat) (h : j < L.length) : (L.take (j + 1)).any (hasI iv) = ((L.take j).any (hasI iv) || hasI iv L[j]) := by
  rw [List.take_succ_eq_append_getElem h, List.any_append]; simp
theorem short_has (i : Ivl) (k : ByteArray) (h : k.size ≤ 65536) : hasP i k = hasI i k := by unfold hasP; rw [decide_eq_true h]; rfl
theorem wrap8 (k : Nat) (h : k < 4) : IntKind.u8.wrap (k : Int) = (k : Int) := by
  rcases (show k = 0 ∨ k = 1 ∨ k = 2 ∨ k = 3 by omega) with rfl | rfl | rfl | rfl <;> decide
/-- What the law keeps in its boxes. -/
structure BB (w W : World) (bf bp bi gf cf : Nat) (F : List (List Trm)) (pt : Prt) (iv : Ivl) : Prop where
  bel : Below w.heap.size w W
  lf : bf < W.heap.size
  lp : bp < W.heap.size
  li : bi < W.heap.size
  f0 : W.cell? ⟨bf, 0, none⟩ = some (.slice (some ⟨gf, 0, none⟩) F.length cf)
  p0 : W.cell? ⟨bp, 0, none⟩ = some (.string pt.path)
  p1 : W.cell? ⟨bp, 1, none⟩ = some (.bool pt.desc)
  i0 : W.cell? ⟨bi, 0, none⟩ = some (.string iv.lo)
  i1 : W.cell? ⟨bi, 1, none⟩ = some (.string iv.hi)
  i2 : W.cell? ⟨bi, 2, none⟩ = some (.bool iv.op)
  rc : ReadC W gf F
theorem BB.step {w W W' : World} {bf bp bi gf cf : Nat} {F : List (List Trm)} {pt : Prt} {iv : Ivl} (h : BB w W bf bp bi gf cf F pt iv) (hb : Below W.heap.size W W') : BB w W' bf bp bi gf cf F pt iv :=
  ⟨h.bel.trans (hb.mono h.bel.size), Nat.lt_of_lt_of_le h.lf hb.size, Nat.lt_of_lt_of_le h.lp hb.size, Nat.lt_of_lt_of_le h.li hb.size, (hb.cell h.lf).trans h.f0, (hb.cell h.lp).trans h.p0, (hb.cell h.lp).trans h.p1, (hb.cell h.li).trans h.i0, (hb.cell h.li).trans h.i1, (hb.cell h.li).trans h.i2, h.rc.next hb⟩
theorem keepI4 {W w0 : World} {bi gk o : Nat} {a0 a1 a2 k0 : Value} (hi : bi < W.heap.size) (hk : gk < W.heap.size) (x0 : W.cell? ⟨bi, 0, none⟩ = some a0) (x1 : W.cell? ⟨bi, 1, none⟩ = some a1) (x2 : W.cell? ⟨bi, 2, none⟩ = some a2) (y0 : W.cell? ⟨gk, o, none⟩ = some k0) (hb : Below W.heap.size W w0) :
    w0.cell? ⟨bi, 0, none⟩ = some a0 ∧ w0.cell? ⟨bi, 1, none⟩ = some a1 ∧ w0.cell? ⟨bi, 2, none⟩ = some a2 ∧ w0.cell? ⟨gk, o, none⟩ = some k0 :=
  ⟨(hb.cell hi).trans x0, (hb.cell hi).trans x1, (hb.cell hi).trans x2, (hb.cell hk).trans y0⟩

set_option maxRecDepth 8000 in
set_option maxHeartbeats 16000000 in
theorem lawBounds (x x' : Option Addr) (cap cap' : Nat) (zs zs' : List Int) (w : World) (hin : InB w x zs) (hin' : InB w x' zs') (hby : ∀ i, i < zs.length → 0 ≤ zs.getD i 0 ∧ zs.getD i 0 < 256) (hby' : ∀ i, i < zs'.length → 0 ≤ zs'.getD i 0 ∧ zs'.getD i 0 < 256)
    (hm : zs.length ≤ maxLen) (hm' : zs'.length ≤ maxLen) :
    Calls Tryz.prog 3 #[.slice x zs.length cap, .slice x' zs'.length cap'] w fun e w' => e = .returned (.bool true) ∧ Below w.heap.size w w' := by
  have HIN : Hid _ := hin
  have HIN' : Hid _ := hin'
  have HBY : Hid _ := hby
  have HBY' : Hid _ := hby'
  unfold maxLen at hm hm'
  clear hin hin' hby hby'
  by_cases h1 : (1048576 : Int) < zs.length
  · go_enter Tryz.func3, Tryz.ntmps3
    go_wp2_with fail
    go_ret
    exact ⟨rfl, Below.refl _ _⟩
  by_cases h2 : (1048576 : Int) < zs'.length
  · go_enter Tryz.func3, Tryz.ntmps3
    go_wp2_with fail
    go_ret
    exact ⟨rfl, Below.refl _ _⟩
  have C1 : Hid (InC w x zs) := (⟨HIN.out, HBY.out, by omega⟩ : InC w x zs)
  have C2 : Hid (InC w x' zs') := (⟨HIN'.out, HBY'.out, by omega⟩ : InC w x' zs')
  have HL1 : Hid (zs.length ≤ 1048576) := (by omega : zs.length ≤ 1048576)
  have HL2 : Hid (zs'.length ≤ 1048576) := (by omega : zs'.length ≤ 1048576)
  clear HIN HIN' HBY HBY'
  go_enter Tryz.func3, Tryz.ntmps3
  go_wp2_with fail
  refine (filterOf_any x cap zs _ C1.out).mono ?_
  rintro e w1 ⟨⟨gf, cf, F, rfl, hcf, MC, hF⟩, b1⟩
  have HF : Hid (filtB F = true) := hF
  have HB1 : Hid (Below w.heap.size w (w1.alloc (.cells #[.slice (some ⟨gf, 0, none⟩) F.length cf] 25))) := b1.alloc b1.size _
  have HR1 : Hid (ReadC (w1.alloc (.cells #[.slice (some ⟨gf, 0, none⟩) F.length cf] 25)) gf F) := MC.read.next ((Below.refl _ _).alloc (Nat.le_refl _) _)
  have f1 : (w1.alloc (.cells #[.slice (some ⟨gf, 0, none⟩) F.length cf] 25)).cell? ⟨w1.heap.size, 0, none⟩ = some (.slice (some ⟨gf, 0, none⟩) F.length cf) := by simp [go_sem]
  have l1 : w1.heap.size < (w1.alloc (.cells #[.slice (some ⟨gf, 0, none⟩) F.length cf] 25)).heap.size := by simp
  have HX1 : Hid (InC (((w1.alloc (.cells #[.slice (some ⟨gf, 0, none⟩) F.length cf] 25))).alloc (.cells #[.int .u8 3] 5)) x zs) := (C1.out.step HB1.out).step ((Below.refl _ _).alloc (Nat.le_refl _) _)
  have e3 : (((w1.alloc (.cells #[.slice (some ⟨gf, 0, none⟩) F.length cf] 25))).alloc (.cells #[.int .u8 3] 5)).cell? ⟨(w1.alloc (.cells #[.slice (some ⟨gf, 0, none⟩) F.length cf] 25)).heap.size, 0, none⟩ = some (.int .u8 3) := by simp [go_sem]
  have l3 : (w1.alloc (.cells #[.slice (some ⟨gf, 0, none⟩) F.length cf] 25)).heap.size < (((w1.alloc (.cells #[.slice (some ⟨gf, 0, none⟩) F.length cf] 25))).alloc (.cells #[.int .u8 3] 5)).heap.size := by simp
  have E3 : Hid (_ = _) := e3
  have L3 : Hid (_ < _) := l3
  obtain ⟨bf, hbf⟩ : ∃ bf, bf = w1.heap.size := ⟨_, rfl⟩
  clear MC hF b1 e3 l3
  rw [← hbf] at f1 l1
  have hzz : (w1.alloc (.cells #[.slice (some ⟨gf, 0, none⟩) F.length cf] 25)).heap.size = bf + 1 := by rw [hbf]; simp
  rw [hzz] at E3 L3
  have HZZ : Hid (_ = _) := hzz
  clear hzz
  have HBF : Hid (bf = w1.heap.size) := hbf
  clear hbf
  go_wp2_with (refine wpList_appZ_bytes rfl (.tmp 29) (.tmp 30) rfl 3 (by omega) (w1.heap.size + 1) x cap zs rfl rfl (by rw [← HBF.out]; exact E3.out) (by rw [← HBF.out]; exact L3.out) HX1.out HL1.out ?_; intro ga ca wa nz hnz hIa hBa; have HNZ : Hid (nz = _) := hnz; have HIA : Hid (InC _ _ _) := hIa; have HBA : Hid (Below _ _ _) := hBa; clear hnz hIa hBa)
  rw [HNZ.out]
  refine (defOf_any _ ca (3 :: zs) _ HIA.out).mono ?_
  rintro e w4 ⟨⟨nm, gq, n, c, pa, de, rfl, hn, hpa, hql, _, q0, q1⟩, b4⟩
  rw [← HBF.out]
  have HB4 : Hid (Below (bf + 1) (w1.alloc (.cells #[.slice (some ⟨gf, 0, none⟩) F.length cf] 25)) w4) := by
    have k1 : Below (bf + 1) (w1.alloc (.cells #[.slice (some ⟨gf, 0, none⟩) F.length cf] 25)) ((w1.alloc (.cells #[.slice (some ⟨gf, 0, none⟩) F.length cf] 25)).alloc (.cells #[.int .u8 3] 5)) := (Below.refl _ _).alloc (by rw [HZZ.out]; exact Nat.le_refl _) _
    have k2 := k1.trans (HBA.out.mono (by have := k1.size; rw [HZZ.out] at this; omega))
    exact k2.trans (b4.mono (by have := k2.size; rw [HZZ.out] at this; omega))
  generalize w1.alloc (.cells #[.slice (some ⟨gf, 0, none⟩) F.length cf] 25) = W1 at HB1 HR1 f1 l1 HZZ HB4
  have hfield : ∀ W : World, (Instr.field 31 (.agg #[.string nm, .slice (some ⟨gq, 0, none⟩) n c]) 1).run Tryz.prog W = .ok (.slice (some ⟨gq, 0, none⟩) n c) W := fun _ => by kernel_rfl
  have hn2 : (0 : Int) < (n : Int) := by omega
  obtain ⟨pt, hpt⟩ : ∃ pt : Prt, pt = ⟨pa, de⟩ := ⟨_, rfl⟩
  have ep : pa = pt.path := by rw [hpt]
  have ed : de = pt.desc := by rw [hpt]
  subst ep ed
  have HP : Hid (pathB pt.path = true) := hpa
  have hps := pieces_le pt.path hpa
  have HB5 : Hid (Below (bf + 1) W1 (w4.alloc (.cells #[.string pt.path, .bool pt.desc] 28))) := HB4.out.alloc (by have := HB4.out.size; rw [HZZ.out] at this; exact this) _
  have p0 : (w4.alloc (.cells #[.string pt.path, .bool pt.desc] 28)).cell? ⟨w4.heap.size, 0, none⟩ = some (.string pt.path) := by simp [go_sem]
  have p1 : (w4.alloc (.cells #[.string pt.path, .bool pt.desc] 28)).cell? ⟨w4.heap.size, 1, none⟩ = some (.bool pt.desc) := by simp [go_sem]
  have lp : w4.heap.size < (w4.alloc (.cells #[.string pt.path, .bool pt.desc] 28)).heap.size := by simp
  obtain ⟨sz1, sz2⟩ := filt_sz F HF.out
  have HSZ : Hid (∀ l ∈ F, szC l) := sz2
  have hfi : filtI pt F = (fiI pt F, 0) := by unfold filtI; rw [HF.out, HP.out]; rfl
  obtain ⟨iv, hiv⟩ : ∃ iv, iv = fiI pt F := ⟨_, rfl⟩
  have HFI : Hid (∀ W : World, ReadC W gf F → Calls Tryz.prog 7 #[.agg #[.slice (some ⟨gf, 0, none⟩) F.length cf], .agg #[.string pt.path, .bool pt.desc]] W fun e w' => e = .returned (.tuple #[.agg #[.string iv.lo, .string iv.hi, .bool iv.op], .int .i64 0]) ∧ Below W.heap.size W w') := fun W hW => by
    have h := implFiltInt_any (some ⟨gf, 0, none⟩) cf F pt W (.inr ⟨gf, rfl, hW⟩) sz1 hcf HSZ.out (by omega)
    rw [hfi, ← hiv] at h; exact h
  have HFS : Hid (∀ W : World, ReadC W gf F → Calls Tryz.prog 8 #[.agg #[.slice (some ⟨gf, 0, none⟩) F.length cf], .agg #[.string pt.path, .bool pt.desc]] W fun e w' => e = .returned (.tuple #[.agg #[.string iv.lo, .string iv.hi, .bool iv.op], .int .i64 0]) ∧ Below W.heap.size W w') := fun W hW => by
    have h := specFiltInt_any (some ⟨gf, 0, none⟩) cf F pt W (.inr ⟨gf, rfl, hW⟩) sz1 HSZ.out (by omega)
    rw [hfi, ← hiv] at h; exact h
  have HBD : Hid (∀ doc : Val, docB doc = true → filtL doc F = true → ∃ k ∈ keysP pt doc, hasI iv k = true) := fun doc h1 h2 => by rw [hiv]; exact bounds pt F doc HF.out h1 h2
  clear hfi hiv hpa HNZ HIA HBA HX1 E3 L3 sz2 hpt b4 HB4
  have f5 := (HB5.out.cell (p := ⟨bf, 0, none⟩) (Nat.lt_succ_self _)).trans f1
  have l5 : bf < (w4.alloc (.cells #[.string pt.path, .bool pt.desc] 28)).heap.size := Nat.lt_of_lt_of_le l1 HB5.out.size
  have HW5 : Hid (Below w.heap.size w (w4.alloc (.cells #[.string pt.path, .bool pt.desc] 28))) := HB1.out.trans (HB5.out.mono (by have := HB1.out.size; rw [HZZ.out] at this; exact this))
  have HR5 : Hid (ReadC (w4.alloc (.cells #[.string pt.path, .bool pt.desc] 28)) gf F) := HR1.out.next (by rw [HZZ.out]; exact HB5.out)
  clear HB5
  go_wp2_with fail
  generalize w4.alloc (.cells #[.string pt.path, .bool pt.desc] 28) = W5 at p0 p1 lp f5 l5 HW5 HR5 ⊢
  obtain ⟨bp, hbp⟩ : ∃ bp, bp = w4.heap.size := ⟨_, rfl⟩
  rw [← hbp] at p0 p1 lp ⊢
  clear hbp q0 q1 hql hfield hn2
  clear f1 l1 HB1 HR1 HZZ HBF
  refine (HFI.out _ HR5.out).mono ?_
  rintro e w6 ⟨rfl, b6⟩
  have k6 : Below W5.heap.size W5 (w6.alloc (.cells #[.string iv.lo, .string iv.hi, .bool iv.op] 34)) := b6.alloc b6.size _
  have HY7 : Hid (BB w (w6.alloc (.cells #[.string iv.lo, .string iv.hi, .bool iv.op] 34)) bf bp w6.heap.size gf cf F pt iv) := ⟨HW5.out.trans (k6.mono HW5.out.size), Nat.lt_of_lt_of_le l5 k6.size, Nat.lt_of_lt_of_le lp k6.size, by simp, (k6.cell l5).trans f5, (k6.cell lp).trans p0, (k6.cell lp).trans p1, by simp [go_sem], by simp [go_sem], by simp [go_sem], HR5.out.next k6⟩
  have c1 := HY7.out.f0
  have c2 := HY7.out.p0
  have c3 := HY7.out.p1
  have d1 := HY7.out.lf
  have d2 := HY7.out.lp
  clear b6 k6 HW5 HR5 f5 p0 p1 l5 lp HFI
  go_wp2_with fail
  generalize w6.alloc (.cells #[.string iv.lo, .string iv.hi, .bool iv.op] 34) = W7 at HY7 c1 c2 c3 d1 d2 ⊢
  obtain ⟨bi, hbi⟩ : ∃ bi, bi = w6.heap.size := ⟨_, rfl⟩
  rw [← hbi] at HY7 ⊢
  clear hbi
  refine (HFS.out _ HY7.out.rc).mono ?_
  rintro e w8 ⟨rfl, b8⟩
  have k8 : Below W7.heap.size W7 (w8.alloc (.cells #[.string iv.lo, .string iv.hi, .bool iv.op] 34)) := b8.alloc b8.size _
  have HY9 : Hid (BB w (w8.alloc (.cells #[.string iv.lo, .string iv.hi, .bool iv.op] 34)) bf bp bi gf cf F pt iv) := HY7.out.step k8
  have j0 : (w8.alloc (.cells #[.string iv.lo, .string iv.hi, .bool iv.op] 34)).cell? ⟨w8.heap.size, 0, none⟩ = some (.string iv.lo) := by simp [go_sem]
  have j1 : (w8.alloc (.cells #[.string iv.lo, .string iv.hi, .bool iv.op] 34)).cell? ⟨w8.heap.size, 1, none⟩ = some (.string iv.hi) := by simp [go_sem]
  have j2 : (w8.alloc (.cells #[.string iv.lo, .string iv.hi, .bool iv.op] 34)).cell? ⟨w8.heap.size, 2, none⟩ = some (.bool iv.op) := by simp [go_sem]
  have jl : w8.heap.size < (w8.alloc (.cells #[.string iv.lo, .string iv.hi, .bool iv.op] 34)).heap.size := by simp
  have i0' := HY9.out.i0
  have i1' := HY9.out.i1
  have i2' := HY9.out.i2
  have il' := HY9.out.li
  have hneq : ∀ W : World, (binOp .neq 34 (.agg #[.string iv.lo, .string iv.hi, .bool iv.op]) (.agg #[.string iv.lo, .string iv.hi, .bool iv.op])).run Tryz.prog W = .ok (.bool false) W := fun W => neqIvl_same _ _ _ W
  clear b8 k8 HY7 c1 c2 c3 d1 d2 HFS
  go_wp2_with fail
  generalize w8.alloc (.cells #[.string iv.lo, .string iv.hi, .bool iv.op] 34) = W9 at HY9 j0 j1 j2 jl i0' i1' i2' il' ⊢
  try go_wp2_with fail
  clear j0 j1 j2 jl i0' i1' i2' il' hneq
  go_loopw [11] (fun i wr => ∃ q : Nat, q ≤ 4 ∧ i = .int .i64 q ∧ BB w wr bf bp bi gf cf F pt iv) (fun i _ => 4 - (intOf i).toNat)
  case atStart => exact ⟨0, by omega, rfl, HY9.out⟩
  case round =>
    obtain ⟨q, hq, rfl, Y⟩ := hrel
    have HY : Hid (BB _ _ _ _ _ _ _ _ _ _) := Y
    clear HY9
    by_cases hlt : q < 4
    · have hq2 : (q : Int) < 4 := by omega
      have hwr8 := wrap8 q hlt
      have HIC : Hid (InC (wr.alloc (.cells #[.int .u8 (q : Int)] 5)) x' zs') := C2.out.step (Y.bel.alloc Y.bel.size _)
      have e5 : (wr.alloc (.cells #[.int .u8 (q : Int)] 5)).cell? ⟨wr.heap.size, 0, none⟩ = some (.int .u8 (q : Int)) := by simp [go_sem]
      have E5 : Hid (_ = _) := e5
      have l5 : wr.heap.size < (wr.alloc (.cells #[.int .u8 (q : Int)] 5)).heap.size := by simp
      have L5 : Hid (_ < _) := l5
      clear e5 l5
      clear Y
      go_wp2_with (refine wpList_appZ_bytes rfl (.tmp 61) (.tmp 62) rfl (q : Int) ⟨by omega, by omega⟩ wr.heap.size x' cap' zs' rfl rfl E5.out L5.out HIC.out HL2.out ?_; intro ga ca wa nz hnz hIa hBa; have HNZ : Hid (nz = _) := hnz; have HIA : Hid (InC _ _ _) := hIa; have HBA : Hid (Below _ _ _) := hBa; clear hnz hIa hBa)
      rw [HNZ.out]
      refine (docT_any _ ca ((q : Int) :: zs') _ HIA.out).mono ?_
      rintro e w2 ⟨⟨v, rfl, hv⟩, b2⟩
      have HV : Hid (docB v = true) := hv
      have hvs := okB_size v (docB_ok v hv)
      have kA : Below wr.heap.size wr (wr.alloc (.cells #[.int .u8 (q : Int)] 5)) := (Below.refl _ _).alloc (Nat.le_refl _) _
      have kB := kA.trans (HBA.out.mono kA.size)
      have kC := kB.trans (b2.mono kB.size)
      have kD : Below wr.heap.size wr (w2.alloc (.cells #[.int .i64 v.k, .int .i64 v.n, .string v.t] 38)) := kC.alloc kC.size _
      have HY3 : Hid (BB _ _ _ _ _ _ _ _ _ _) := HY.out.step kD
      have v0 : (w2.alloc (.cells #[.int .i64 v.k, .int .i64 v.n, .string v.t] 38)).cell? ⟨w2.heap.size, 0, none⟩ = some (.int .i64 v.k) := by simp [go_sem]
      have v1 : (w2.alloc (.cells #[.int .i64 v.k, .int .i64 v.n, .string v.t] 38)).cell? ⟨w2.heap.size, 1, none⟩ = some (.int .i64 v.n) := by simp [go_sem]
      have v2 : (w2.alloc (.cells #[.int .i64 v.k, .int .i64 v.n, .string v.t] 38)).cell? ⟨w2.heap.size, 2, none⟩ = some (.string v.t) := by simp [go_sem]
      have lv : w2.heap.size < (w2.alloc (.cells #[.int .i64 v.k, .int .i64 v.n, .string v.t] 38)).heap.size := by simp
      have hmf : matchF v F = (filtL v F, 0) := by unfold matchF; rw [if_pos ⟨HF.out, HV.out⟩]
      have HM : Hid (∀ W : World, ReadC W gf F → Calls Tryz.prog 10 #[.agg #[.slice (some ⟨gf, 0, none⟩) F.length cf], .agg #[.int .i64 v.k, .int .i64 v.n, .string v.t]] W fun e w' => e = .returned (.tuple #[.bool (filtL v F), .int .i64 0]) ∧ Below W.heap.size W w') := fun W hW => by
        have h := specMatches_any (some ⟨gf, 0, none⟩) cf F v W (.inr ⟨gf, rfl, hW⟩) sz1 HSZ.out (by omega)
        rw [hmf] at h; exact h
      have HBV : Hid (filtL v F = true → ∃ k ∈ keysP pt v, hasI iv k = true) := HBD.out v HV.out
      obtain ⟨P, hP⟩ : ∃ P, P = filtL v F := ⟨_, rfl⟩
      rw [← hP] at HM HBV
      have c1 := HY3.out.f0
      have d1 := HY3.out.lf
      clear hv b2 kA kB kC kD HNZ HIA HBA HIC E5 L5 HY hmf hP
      go_wp2_with fail
      generalize w2.alloc (.cells #[.int .i64 v.k, .int .i64 v.n, .string v.t] 38) = W3 at HY3 v0 v1 v2 lv c1 d1 ⊢
      obtain ⟨bv, hbv⟩ : ∃ bv, bv = w2.heap.size := ⟨_, rfl⟩
      rw [← hbv] at v0 v1 v2 lv ⊢
      clear hbv
      refine (HM.out _ HY3.out.rc).mono ?_
      rintro e w4 ⟨rfl, b4⟩
      have HY4 : Hid (BB _ _ _ _ _ _ _ _ _ _) := HY3.out.step b4
      have v0' := (b4.cell lv).trans v0
      have v1' := (b4.cell lv).trans v1
      have v2' := (b4.cell lv).trans v2
      have lv' := Nat.lt_of_lt_of_le lv b4.size
      clear b4 HM HY3 v0 v1 v2 lv c1 d1
      cases P
      · go_wp2_with fail
        go_roundw
        case rel => exact ⟨q + 1, by omega, by go_num, HY4.out⟩
        case measure => simp [intOf]; omega
      · have p0 := HY4.out.p0
        have p1 := HY4.out.p1
        have lp := HY4.out.lp
        have kE : Below w4.heap.size w4 (w4.alloc (.cells #[.string pt.path, .bool pt.desc] 28)) := (Below.refl _ _).alloc (Nat.le_refl _) _
        have HY5 : Hid (BB _ _ _ _ _ _ _ _ _ _) := HY4.out.step kE
        have HRD : Hid (RowD (w4.alloc (.cells #[.string pt.path, .bool pt.desc] 28)) (some ⟨w4.heap.size, 0, none⟩) [pt]) := .inr ⟨_, rfl, by simp, fun i hi => by
          have : i = 0 := by simp at hi; exact hi
          subst this
          exact ⟨by simp [go_sem], by simp [go_sem]⟩⟩
        obtain ⟨eL, eC⟩ := dk_ok ⟨#[111, 110, 101]⟩ [pt] v (one_def pt HP.out) HV.out
        rw [docK_one] at eL
        have HDK : Hid (∀ W : World, RowD W (some ⟨w4.heap.size, 0, none⟩) [pt] → Calls Tryz.prog 11 #[.agg #[.string ⟨#[111, 110, 101]⟩, .slice (some ⟨w4.heap.size, 0, none⟩) 1 1], .agg #[.int .i64 v.k, .int .i64 v.n, .string v.t]] W fun e w' => (∃ p c, e = .returned (.tuple #[.slice p (keysP pt v).length c, .int .i64 0]) ∧ InT1 w' p (keysP pt v)) ∧ Below W.heap.size W w') := fun W hW => by
          refine (implDK_any ⟨#[111, 110, 101]⟩ (some ⟨w4.heap.size, 0, none⟩) 1 [pt] v W hW (by decide) (by simp) (by simp) (fun u hu => by simp at hu; subst hu; unfold szPt; omega) (by omega)).mono ?_
          rintro e w' ⟨⟨vv, h1, h2⟩, h3⟩
          rw [eL] at h2
          rw [eC] at h1
          obtain ⟨p, c, rfl, h4⟩ := OwnS.in1 h2
          exact ⟨⟨p, c, h1, h4⟩, h3⟩
        have HKS : Hid (∀ s ∈ keysP pt v, s.size ≤ 6622) := keysP_size pt v (docB_ok v HV.out)
        have hkl := (keysP_len pt v (docB_ok v HV.out)).2
        have hany : (keysP pt v).any (hasI iv) = true := by
          obtain ⟨k, hk1, hk2⟩ := HBV.out (by first | trivial | rfl)
          exact List.any_eq_true.2 ⟨k, hk1, hk2⟩
        obtain ⟨L, hL⟩ : ∃ L, L = keysP pt v := ⟨_, rfl⟩
        rw [← hL] at HDK HKS hkl hany
        have HANY : Hid (_ = _) := hany
        clear eL eC hL hany HBV kE HY4
        go_wp2_with fail
        refine (HDK.out _ HRD.out).mono ?_
        rintro e w6 ⟨⟨pk, ck, rfl, IK⟩, b6⟩
        have HY6 : Hid (BB _ _ _ _ _ _ _ _ _ _) := HY5.out.step b6
        have HIK : Hid (InT1 _ _ _) := IK
        clear b6 IK HDK HRD HY5 v0' v1' v2' lv' p0 p1 lp
        go_wp2_with fail
        go_loopw [17, 18] (fun sb j wr => ∃ m : Nat, m ≤ L.length ∧ j = .int .i64 m ∧ sb = .bool ((L.take m).any (hasI iv)) ∧ Below w6.heap.size w6 wr) (fun _ j _ => L.length - (intOf j).toNat)
        case atStart => exact ⟨0, Nat.zero_le _, rfl, by simp, Below.refl _ _⟩
        case round =>
          obtain ⟨m, hm0, rfl, rfl, hbm⟩ := hrel
          have Z := HY6.out.step hbm
          have HZ : Hid (BB _ _ _ _ _ _ _ _ _ _) := Z
          by_cases hlm : m < L.length
          · have hm2 : (m : Int) < (L.length : Int) := by omega
            obtain ⟨gk, rfl, hgk, hkc⟩ : ∃ gk, pk = some ⟨gk, 0, none⟩ ∧ gk < wr.heap.size ∧ wr.cell? ⟨gk, m, none⟩ = some (.string L[m]) := by
              rcases HIK.out.step hbm with h | ⟨g', e', hl', hc'⟩
              · omega
              · exact ⟨g', e', hl', hc' m hlm⟩
            have htk := any_take iv L m hlm
            have hks := HKS.out L[m] (List.getElem_mem _)
            obtain ⟨t, ht⟩ : ∃ t, t = L[m] := ⟨_, rfl⟩
            rw [← ht] at hkc htk hks
            have HH : Hid (∀ W : World, Calls Tryz.prog 12 #[.agg #[.string iv.lo, .string iv.hi, .bool iv.op], .string t] W fun e w' => e = .returned (.bool (hasI iv t)) ∧ Below W.heap.size W w') := fun W => by
              have h := implHas_any iv.lo iv.hi iv.op t W (by omega)
              rw [short_has _ _ (by omega)] at h; exact h
            have i0 := Z.i0
            have i1 := Z.i1
            have i2 := Z.i2
            have li := Z.li
            obtain ⟨K, hK⟩ : ∃ K, K = (L.take m).any (hasI iv) := ⟨_, rfl⟩
            rw [← hK] at htk ⊢
            have HTK : Hid (_ = _) := htk
            clear hK ht htk Z
            cases K
            · go_wp2_with fail
              go_region_held3 (fun w0 => w0.cell? ⟨bi, 0, none⟩ = some (.string iv.lo) ∧ w0.cell? ⟨bi, 1, none⟩ = some (.string iv.hi) ∧ w0.cell? ⟨bi, 2, none⟩ = some (.bool iv.op) ∧ w0.cell? ⟨gk, m, none⟩ = some (.string t)) ((refine keepI4 li hgk i0 i1 i2 hkc ?_; (repeat (first | (with_reducible exact Below.refl _ _) | (with_reducible assumption) | (with_reducible apply below_drewN) | (with_reducible apply Below.drew) | ((with_reducible refine Below.setCell ?_ ?_ _); rotate_left; focus (first | (simp; done) | (simp; omega) | omega)) | ((with_reducible refine Below.alloc ?_ ?_ _); rotate_left; focus (first | (simp; done) | (simp; omega) | omega)))))) ((go_at_call 12; refine (HH.out _).mono ?_; rintro e wz ⟨rfl, hb⟩; have hBz : Below wr.heap.size wr wz := (show Below wr.heap.size wr _ by (repeat (first | (with_reducible exact Below.refl _ _) | (with_reducible assumption) | (with_reducible apply below_drewN) | (with_reducible apply Below.drew) | ((with_reducible refine Below.setCell ?_ ?_ _); rotate_left; focus (first | (simp; done) | (simp; omega) | omega)) | ((with_reducible refine Below.alloc ?_ ?_ _); rotate_left; focus (first | (simp; done) | (simp; omega) | omega))))).trans (hb.mono (by first | (simp; done) | (simp; omega) | omega)); clear hb))
              have hB2 := hbm.trans (hBz.mono hbm.size)
              go_wp2_with fail
              go_roundw
              case rel => exact ⟨m + 1, by omega, by go_num, by rw [HTK.out, Bool.false_or], hB2⟩
              case measure => simp [intOf]; omega
            · go_wp2_with fail
              go_quiet (fail)
              go_wp2_with fail
              go_roundw
              case rel => exact ⟨m + 1, by omega, by go_num, by rw [HTK.out, Bool.true_or], by (repeat (first | (with_reducible exact Below.refl _ _) | (with_reducible assumption) | (with_reducible apply below_drewN) | (with_reducible apply Below.drew) | ((with_reducible refine Below.setCell ?_ ?_ _); rotate_left; focus (first | (simp; done) | (simp; omega) | omega)) | ((with_reducible refine Below.alloc ?_ ?_ _); rotate_left; focus (first | (simp; done) | (simp; omega) | omega))))⟩
              case measure => simp [intOf]; omega
          · have hm2 : ¬ (m : Int) < (L.length : Int) := by omega
            rw [List.take_of_length_le (by omega), HANY.out]
            clear Z
            go_wp2_with fail
            go_roundw
            case rel => exact ⟨q + 1, by omega, by go_num, HZ.out⟩
            case measure => simp [intOf]; omega
    · have hq2 : ¬ (q : Int) < 4 := by omega
      have hbw := Y.bel
      clear Y HY
      go_wp2_with fail
      go_ret
      exact ⟨rfl, hbw⟩

end Go.Proofs.YtdchhjnmhnehiaaGreatDoor

/- Bytes that come in as a law's code: where they lie, and each is one. -/
namespace Go.Proofs.YtdchhjnmhnehiaaGreatDoor
open Go.RowKit
set_option linter.unusedVariables false

theorem wf_byte {n : Int} (h : (Lit.int .u8 n).wf = true) : 0 ≤ n ∧ n < 256 := by
  unfold Lit.wf at h
  rw [Bool.and_eq_true, decide_eq_true_eq, decide_eq_true_eq] at h
  have h1 : IntKind.u8.min = 0 := by decide
  have h2 : IntKind.u8.max = 255 := by decide
  rw [h1, h2] at h
  omega
theorem inc_of {w : World} {x : Addr} {l c : Nat} {zs : List Int} (hl : l ≤ c) (hm : c ≤ maxLen) (hz : zs.length = c) (hcell : ∀ i, i < zs.length → w.cell? (x.add i) = some (.int .u8 (zs.getD i 0))) (hwf : ∀ n ∈ zs, (Lit.int .u8 n).wf = true) :
    ∃ ys : List Int, ys.length = l ∧ ys.length ≤ maxLen ∧ (∀ i, i < ys.length → 0 ≤ ys.getD i 0 ∧ ys.getD i 0 < 256) ∧ InB w (some x) ys := by
  have hlen : (zs.take l).length = l := by simp; omega
  refine ⟨zs.take l, hlen, by omega, ?_, ?_⟩
  · intro i hi
    rw [gd (zs.take l) i hi, List.getElem_take]
    exact wf_byte (hwf _ (List.getElem_mem _))
  by_cases h0 : l = 0
  · exact .inl (by simp [h0])
  · obtain ⟨b, off, spot⟩ := x
    have hc0 := hcell 0 (by omega)
    have hspot : spot = none := by simpa [Addr.add] using World.cell?_spot hc0
    subst hspot
    have hlt : b < w.heap.size := by
      rcases Nat.lt_or_ge b w.heap.size with h | h
      · exact h
      · simp [World.cell?, Addr.add, Array.getElem?_eq_none h] at hc0
    refine .inr ⟨b, off, rfl, hlt, fun i hi => ?_⟩
    have hi2 : i < l := by omega
    have := hcell i (by omega)
    rw [gd (zs.take l) i hi, List.getElem_take, ← gd zs i (by omega), ← this]
    by_cases hi0 : i = 0
    · subst hi0; simp [Addr.add]
    · simp [Addr.add, hi0]

end Go.Proofs.YtdchhjnmhnehiaaGreatDoor

/- What the frame of the law on bounds leans on. -/
namespace Go.Proofs.YtdchhjnmhnehiaaGreatDoor
end Go.Proofs.YtdchhjnmhnehiaaGreatDoor

/- The law's own walk. -/
namespace Go.Proofs.YtdchhjnmhnehiaaGreatDoor
open Go.ChangeShapes Go.WideShapes Go.ChangeAt Go.RowKit Go.Joins
open Go.ChangeMaps (open_string shut_string)
set_option linter.unusedVariables false
namespace BndLaw


theorem walk (x : Option Addr) (cap : Nat) (zs : List Int) (hm : zs.length ≤ maxLen) (hb : ∀ i, i < zs.length → 0 ≤ zs.getD i 0 ∧ zs.getD i 0 < 256) (x' : Option Addr) (cap' : Nat) (zs' : List Int) (hm' : zs'.length ≤ maxLen) (hb' : ∀ i, i < zs'.length → 0 ≤ zs'.getD i 0 ∧ zs'.getD i 0 < 256) (w : World) (hin : InB w x zs) (hin' : InB w x' zs') :
    Calls Tryz.prog 3 #[.slice x zs.length cap, .slice x' zs'.length cap'] w fun e w' => e = .returned (.bool true) ∧ Below w.heap.size w w' :=
  lawBounds x x' cap cap' zs zs' w hin hin' hb hb' hm hm'

end BndLaw
end Go.Proofs.YtdchhjnmhnehiaaGreatDoor

/- The law's walk, lifted to the row. -/
namespace Go.Proofs.YtdchhjnmhnehiaaGreatDoor
open Go.ChangeShapes Go.WideShapes Go.ChangeAt Go.RowKit Go.Joins
open Go.ChangeMaps (open_string shut_string)
set_option linter.unusedVariables false
namespace BndLaw
theorem own : ownKnob Tryz.prog.godebug = none := by kernel_rfl
theorem laidOut : laidOutB Tryz.prog = true := by kernel_rfl

set_option maxRecDepth 100000 in
theorem lifted (os : Os) (started : os.Started) (H : Type) (enc : TypeId × Value → H) :
    ReturnsInHanded {} Tryz.checked os 3 .any (fun w args => (Rows.fnBoundsSpec.pre enc Tryz.prog Tryz.f3 Rows.fnBoundsRow.domain false w args ∧ laidMetH Tryz.prog Rows.fnBoundsRow.laid w) ∧ sizedMet enc Tryz.prog Tryz.f3 (OpenSpec.ofChange Rows.fnBoundsSpec) false w args)
      (Rows.fnBoundsSpec.post enc Tryz.prog Tryz.f3 false true false false) := by
  refine returnsInHanded_of_change_and (C := Tryz.checked) (X := fun w _ => laidMetH Tryz.prog Rows.fnBoundsRow.laid w) (fun _ _ _ hh h => h.of_heap hh) own started (by kernel_rfl) Tryz.func3
    (ChangeSpec.witness_shaped (enc := enc) (C := Tryz.checked) (os := os) (X := fun w _ => laidMetH Tryz.prog Rows.fnBoundsRow.laid w) false (World.laidAll Tryz.prog os Rows.fnBoundsRow.laid) #[.slice none 0 0, .slice none 0 0] 8 (World.laidAll_os _ _ _)
      (World.shaped_of_ZipB (by kernel_rfl) (by kernel_rfl)) (by kernel_rfl) (by kernel_rfl) (by kernel_rfl)
      (by rw [MakeChecks.laidMetH_plain _ _ _ (by kernel_rfl)]; exact laidMet_laidAll _ (by kernel_rfl) (by kernel_rfl))) ?_
  intro W base args ds gs before hval0 hW hcnd _ hL _
  have hval : ∀ (j : Nat) t v, Tryz.f3.params[j]? = some t → args[j]? = some v → Value.okWide Tryz.prog W .any base t v := hval0
  have hW' := hW
  obtain ⟨p, q, hA0, hV, rfl, hfz, hnd⟩ := hW
  have hA : DataW.TrodAll enc Tryz.prog W 0 (fun _ => true) true Tryz.f3.params.toList args.toList ds p := hA0
  rw [Tryz.params3] at hA hval
  obtain ⟨v0, vs0, d0, ds0, p0, q0, hargs, rfl, rfl, h0, r0⟩ := trodAll_cons hA
  obtain ⟨v1, vs1, d1, ds1, p1, q1, rfl, rfl, rfl, h1, r1⟩ := trodAll_cons r0
  obtain ⟨rfl, rfl, rfl⟩ := trodAll_nil r1
  obtain rfl : args = #[v0, v1] := by cases args; simp_all
  obtain ⟨rfl, rfl⟩ := trodVars_none hV
  have k0 := h0
  have lt0 : ∀ x ∈ p0, x.block < W.heap.size := by obtain ⟨m, hm⟩ := k0; exact DataW.trod_lt m _ _ _ hm
  obtain ⟨x0, len0, cap0, rfl⟩ := okWide_slice Tryz.underlying22 (hval 0 22 v0 rfl rfl)
  obtain ⟨z0, hz0, hm0, hb0, i0⟩ : ∃ zs : List Int, zs.length = len0 ∧ zs.length ≤ maxLen ∧ (∀ i, i < zs.length → 0 ≤ zs.getD i 0 ∧ zs.getD i 0 < 256) ∧ InB W x0 zs := by
    obtain ⟨fuel, hf⟩ := h0
    rcases open_ints Tryz.underlying22 Tryz.underlying5 (by kernel_rfl) hf with ⟨hcs, _⟩ | ⟨x, l, c, zs, hcs, _, hl, hm, hz, _, hcell, hwz⟩
    · simp [Value.cells] at hcs
      obtain ⟨rfl, rfl, rfl⟩ := hcs
      exact ⟨[], rfl, by simp, by simp, .inl rfl⟩
    · simp [Value.cells] at hcs
      obtain ⟨rfl, rfl, rfl⟩ := hcs
      exact inc_of hl hm (by simpa using hz) hcell hwz
  subst hz0
  have k1 := h1
  have lt1 : ∀ x ∈ p1, x.block < W.heap.size := by obtain ⟨m, hm⟩ := k1; exact DataW.trod_lt m _ _ _ hm
  obtain ⟨x1, len1, cap1, rfl⟩ := okWide_slice Tryz.underlying22 (hval 1 22 v1 rfl rfl)
  obtain ⟨z1, hz1, hm1, hb1, i1⟩ : ∃ zs : List Int, zs.length = len1 ∧ zs.length ≤ maxLen ∧ (∀ i, i < zs.length → 0 ≤ zs.getD i 0 ∧ zs.getD i 0 < 256) ∧ InB W x1 zs := by
    obtain ⟨fuel, hf⟩ := h1
    rcases open_ints Tryz.underlying22 Tryz.underlying5 (by kernel_rfl) hf with ⟨hcs, _⟩ | ⟨x, l, c, zs, hcs, _, hl, hm, hz, _, hcell, hwz⟩
    · simp [Value.cells] at hcs
      obtain ⟨rfl, rfl, rfl⟩ := hcs
      exact ⟨[], rfl, by simp, by simp, .inl rfl⟩
    · simp [Value.cells] at hcs
      obtain ⟨rfl, rfl, rfl⟩ := hcs
      exact inc_of hl hm (by simpa using hz) hcell hwz
  subst hz1
  clear hA0 hval0
  refine (walk x0 cap0 z0 hm0 hb0 x1 cap1 z1 hm1 hb1 W i0 i1).mono fun e W' ⟨he, bel⟩ => ?_
  subst he
  exact ⟨_, rfl, _, _, _, [], _, [], hW', trodAll_mk1 (shut_bool Tryz.underlying4 _), (trodAll_cons_mk (Below.trod laidOut (by kernel_rfl) (of_decide_eq_true (by kernel_rfl)) k0 bel lt0) (trodAll_cons_mk (Below.trod laidOut (by kernel_rfl) (of_decide_eq_true (by kernel_rfl)) k1 bel lt1) trodAll_mk0)), rfl, bel.frame _, fun h => by cases h⟩
end BndLaw
end Go.Proofs.YtdchhjnmhnehiaaGreatDoor
