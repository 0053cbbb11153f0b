/- Operations of a region of open order, named by their numbers. -/
import Derived.StillTail
import Derived.Deep.RegionHeld3
import Derived.ProofKit
namespace Go.Proofs.YtkeghknceccdmaaGreatDoor
open Go.RowKit
set_option linter.unusedVariables false

section
variable {P : Program} {md : Region.Mode} {Q : Exit → Act → World → Prop}
/-- Operation number i of a list. -/
def OpAt : List Oper → Nat → Oper → Prop
  | [], _, _ => False
  | x :: _, 0, o => x = o
  | _ :: l, n + 1, o => OpAt l n o
theorem OpAt.zero {o : Oper} {l : List Oper} : OpAt (o :: l) 0 o := rfl
theorem OpAt.succ {o x : Oper} {l : List Oper} {n : Nat} (h : OpAt l n o) : OpAt (x :: l) (n + 1) o := h
theorem OpAt.get : ∀ {l : List Oper} {i : Nat} {o : Oper}, OpAt l i o → l.toArray[i]? = some o
  | [], _, _, h => h.elim
  | x :: l, 0, o, h => by rw [List.getElem?_toArray, List.getElem?_cons_zero]; exact congrArg some h
  | x :: l, n + 1, o, h => by
    have k := OpAt.get (l := l) (i := n) (o := o) h
    rw [List.getElem?_toArray] at k ⊢
    rw [List.getElem?_cons_succ]; exact k
theorem take_at {ls : List Oper} {S : World → Prop} {i : Nat} {oi : Oper} {v : Value} {fuel : Nat} {listed : Array Bool} {a : Act} {w : World} (hi : OpAt ls i oi)
    (hs : Region.noSelect ls.toArray = true) (hf : Region.free md ls.toArray listed i = true) (hr : (Region.ready md ls.toArray listed).contains i = true)
    (hQ : ∀ c a w, Q (.panic c) (a.put oi.dst v) w → Q (.panic c) a w) (hy : YieldsIf P ls.toArray S oi v a) (hS : S w)
    (h : wpAnyH P md ls.toArray Q S fuel (listed.setIfInBounds i true) (a.put oi.dst v) w) : wpAnyH P md ls.toArray Q S (fuel + 1) listed a w :=
  wpAnyH_take hi.get hs hf hr hQ hy hS h
theorem cons_at {ls : List Oper} {S : World → Prop} {fuel : Nat} {listed : Array Bool} {a : Act} {w : World} {i : Nat} {o : Oper} {rs : List Nat} (ho : OpAt ls i o)
    (h : ∀ K' : Act → World → Prop, Shut (∀ a w, S w → (S w → wpAnyH P md ls.toArray Q S fuel (listed.setIfInBounds i true) a w) → K' a w) → if Region.wanted o (yielded ls.toArray a.tmps) = true then Oper.wp P o a w K' Q else K' (a.put o.dst undef) w)
    (hs : AllReadyH P md ls.toArray Q S fuel listed a w rs) : AllReadyH P md ls.toArray Q S fuel listed a w (i :: rs) := AllReadyH.cons ho.get h hs
end
end Go.Proofs.YtkeghknceccdmaaGreatDoor
