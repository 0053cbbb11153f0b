/- What the specification's row of drawn values is: right ones, of the call's own; all that lay there is as it was. -/
import Derived.Test.YtkeghknceccdmaaGreatDoorDrawE
namespace Go.Proofs.YtkeghknceccdmaaGreatDoor
open Go.RowKit
set_option linter.unusedVariables false

/-- Bytes that came in, and each of them is one. -/
structure InC (w : World) (x : Option Addr) (zs : List Int) : Prop where
  inb : InB w x zs
  bytes : ∀ i, i < zs.length → 0 ≤ zs.getD i 0 ∧ zs.getD i 0 < 256
  len : zs.length ≤ 2097152
theorem InC.step {w w' : World} {x : Option Addr} {zs : List Int} (h : InC w x zs) (hb : Below w.heap.size w w') : InC w' x zs := ⟨h.inb.step hb, h.bytes, h.len⟩
theorem InC.code {w W : World} {x : Option Addr} {zs : List Int} (h : InC w x zs) (hb : Below w.heap.size w W) : CodeAt W w.heap.size x zs := by
  refine ⟨?_, h.bytes, h.len⟩
  rcases h.inb with h0 | ⟨b, off, hx, hlt, hc⟩
  · exact .inl h0
  · exact .inr ⟨b, off, hx, by omega, Nat.lt_of_lt_of_le hlt hb.size, fun i hi => (hb.cell (p := ⟨b, off + i, none⟩) hlt).trans (hc i hi)⟩
theorem SrcAt.next {W W' : World} {g : Nat} {x : Option Addr} {cap : Nat} {zs : List Int} {a : Nat} (h : SrcAt W g x cap zs a) (hb : W'.heap[g]? = W.heap[g]?) (hc : CodeAt W' g x zs) : SrcAt W' g x cap zs a := by
  obtain ⟨k, s, h1, h2, h3⟩ := h.block
  exact ⟨⟨k, s, h1, h2, hb.trans h3⟩, hc⟩

set_option maxRecDepth 4000 in
set_option maxHeartbeats 1000000 in
theorem l00Source_any (x : Option Addr) (cap : Nat) (zs : List Int) (w : World) (h : InC w x zs) :
    Calls Tryz.prog 43 #[.slice x zs.length cap] w fun e w' => e = .returned (.pointer (some ⟨w.heap.size, 0, none⟩)) ∧ SrcAt w' w.heap.size x cap zs 0 ∧ Below w.heap.size w w' := by
  have hl := h.len
  have HC : Hid (InC _ _ _) := h
  clear h
  go_enter Tryz.func43, Tryz.ntmps43
  go_wp2_with fail
  go_ret
  have hb : Below w.heap.size w (w.alloc (.cells #[.slice x zs.length cap, .int .i64 0, .int .i64 ((zs.length : Int) % 1000)] 146)) := (Below.refl _ _).alloc (Nat.le_refl _) _
  exact ⟨rfl, SrcAt.done 0 ((zs.length : Int) % 1000) (by omega) (by omega) (by omega) (by omega) (heap_alloc_new w _) (HC.out.code hb), hb⟩

theorem cost_two : costV 2 = 430 := rfl
end Go.Proofs.YtkeghknceccdmaaGreatDoor
