/- What the specification's text of a value is, for every right value. -/
import Derived.Test.YtdchhjnmhnehiaaGreatDoorTextS
import Derived.Test.YtdchhjnmhnehiaaGreatDoorGetU
import Derived.Maps.AppendAt
import Derived.Deep.RegionLaw
import Derived.Deep.DeepCutAuto
namespace Go.Proofs.YtdchhjnmhnehiaaGreatDoor
open Go.RowKit
set_option linter.unusedVariables false

theorem datas_map {α : Type} (f : α → List UInt8) (l : List α) : datas (l.map (fun u => mkB (f u))) = l.map f := by
  unfold datas; rw [List.map_map]; apply List.map_congr_left; intro u _; exact mkB_data _
theorem wrapT (a b : UInt8) (x : List UInt8) : (⟨#[a]⟩ : ByteArray) ++ mkB x ++ (⟨#[b]⟩ : ByteArray) = mkB (a :: (x ++ [b])) := by
  rw [show (⟨#[a]⟩ : ByteArray) = mkB [a] from rfl, show (⟨#[b]⟩ : ByteArray) = mkB [b] from rfl, mkB_app, mkB_app]; rfl

end Go.Proofs.YtdchhjnmhnehiaaGreatDoor
