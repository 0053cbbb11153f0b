/- The library's Delete over rows of pointers to pages. -/
import Derived.Test.YtnmpfooegnmknaaPutH
import Derived.Shelf.SlicesE.Delete
import Derived.Ground.SlgnProg
namespace Go.Proofs
open Go.RowKit
shelf_lay_g SlLaysE.n45 Slgn 45 at Try 101 as Try.delPg
end Go.Proofs
namespace Go.Proofs.Ytnmpfooegnmknaa.Tr
open Go.RowKit
set_option linter.unusedVariables false
theorem infoPp : (Try.prog.info? 91).map (fun i => (i.zero, i.size, i.bytes)) = some (some (.pointer none), 1, 8) := by kernel_rfl
/-- Delete over pointers: what stood ahead of i, what stood from j on, then nil. -/
theorem delete_any (g off cap i j : Nat) (d : Array (Option Addr)) (w : World) (hH : Sort.Holds Value.pointer w g off d) (hc : d.size ≤ cap) (hm : cap ≤ 9223372036854775807) (hij : i ≤ j) (hj : j ≤ d.size) :
    Calls Try.prog 101 #[.slice (some ⟨g, off, none⟩) d.size cap, .int .i64 i, .int .i64 j] w fun e w' => e = .returned (.slice (some ⟨g, off, none⟩) (d.size - (j - i)) cap) ∧ ∃ q, w' = Sort.putRow Value.pointer (Sort.ahead w q) g off (d.toList.take i ++ d.toList.drop j ++ List.replicate (j - i) none).toArray := by
  obtain ⟨i0, hi, hz0, hz1, hz2⟩ := info_parts infoPp
  exact AnyE.slices_Delete Try.delPg Value.pointer (fun _ => rfl) none Try.zeroValue91 i0 hi hz1 g off cap i j d w hH hc hm hij hj
end Go.Proofs.Ytnmpfooegnmknaa.Tr
