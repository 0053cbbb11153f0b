/- A region of open order whose operations read old memory alone and whose callees may make new memory: walked once, in the order of the text. -/
import Derived.Test.YtcggkeleaepebaaGreatDoorOKB
namespace Go.Proofs.YtcggkeleaepebaaGreatDoor
open Go.RowKit
set_option linter.unusedVariables false

/-- A world in which all that lay in W still lies as it did. -/
structure Under (W : World) where
  x : World
  h : Below W.heap.size W x
theorem wp_region_under {P : Program} {id : Nat} {Q : Exit → Act → World → Prop} {a : Act} {w : World} {l : List Oper} (hm : P.follows .mixedOrders = true) (hB : Region.lexB .any l.toArray = true)
    (h : wpQuiet P l.toArray (fun w' => ∃ u : Under w, w' = u.x) (fun a' => ∀ w', (∃ u : Under w, w' = u.x) → Q .normal a' w') l a) : (Code.region id l.toArray true).wp P Q a w :=
  wp_region_quiet (C := fun w' => ∃ u : Under w, w' = u.x) hm hB ⟨⟨_, (Below.refl _ _).drew⟩, rfl⟩ (by simpa using h)
theorem calls_under {P : Program} {f : FuncId} {args : Array Value} {W : World} {v : Value} (u : Under W)
    (h : Calls P f args u.x fun e w' => e = .returned v ∧ Below u.x.heap.size u.x w') : Calls P f args u.x fun e w'' => e = .returned v ∧ ∃ y : Under W, w'' = y.x :=
  h.mono fun _ w' ⟨he, hb⟩ => ⟨he, ⟨w', u.h.trans (hb.mono u.h.size)⟩, rfl⟩
theorem calls_under_same {P : Program} {f : FuncId} {args : Array Value} {W : World} {v : Value} (u : Under W)
    (h : Calls P f args u.x fun e w' => e = .returned v ∧ w' = u.x) : Calls P f args u.x fun e w'' => e = .returned v ∧ ∃ y : Under W, w'' = y.x :=
  h.mono fun _ w' ⟨he, hb⟩ => ⟨he, u, hb⟩

end Go.Proofs.YtcggkeleaepebaaGreatDoor
