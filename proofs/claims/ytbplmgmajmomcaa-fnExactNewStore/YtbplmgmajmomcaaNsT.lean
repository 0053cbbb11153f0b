/- Rows of texts made by the laws' helper, with what owns them. -/
import Derived.Test.YtbplmgmajmomcaaRowS
import Derived.Test.YtbplmgmajmomcaaStrM
namespace Go.Proofs.Ytbplmgmajmomcaa.Ns
open Go.RowKit Tr
set_option linter.unusedVariables false

set_option maxRecDepth 4000 in
set_option maxHeartbeats 1000000 in
theorem toStringS_own (a : Option Addr) (cap : Nat) (l : List ByteArray) (w : World) (hin : InS w a l) (hlen : l.length ≤ 1048576) :
    Calls Try.prog 6 #[.slice a l.length cap] w fun e w' => (∃ g, e = .returned (.slice (some ⟨g, 0, none⟩) l.length l.length) ∧ w.heap.size ≤ g ∧ ReadS w' g 0 l ∧ OwnS w' w.heap.size (.slice (some ⟨g, 0, none⟩) l.length l.length) l) ∧ Below w.heap.size w w' := by
  obtain ⟨i0, hi, hz0, hz1, hz2⟩ := info_parts infoS
  have HI : Hid _ := hin
  clear hin
  go_enter Try.func6, Try.ntmps6
  go_wp2_with (refine wpList_make_full _ rfl (.tmp 6) (.tmp 6) 22 rfl w.heap.size 9 i0 (.string em) 1 Try.underlying22 hi hz0 hz1 .i64 .i64 _ _ l.length rfl rfl rfl rfl (by rw [hz2]; omega) (by unfold maxLen; omega) (Nat.le_refl _) ?_; intro w1 hown1 hgrow1)
  have hb1 : Below w.heap.size w w1 := Below.grown (Below.refl _ _) hgrow1 (Nat.le_refl _) (fun k h => by cases h)
  rw [made_zeroS, show List.replicate l.length em = mixS l 0 from by simp [mixS]] at hown1
  clear hgrow1
  go_loopw [4] (fun i wr => ∃ k : Nat, k ≤ l.length ∧ i = .int .i64 k ∧ wr.ownsRow w.heap.size 9 1 (.slice (some ⟨w.heap.size, 0, none⟩) l.length l.length) l.length (strs (mixS l k)) ∧ Below w.heap.size w wr) (fun i _ => l.length - (intOf i).toNat)
  case atStart => exact ⟨0, Nat.zero_le _, rfl, hown1, hb1⟩
  case round =>
    obtain ⟨k, hk, rfl, hown, hbel⟩ := hrel
    clear hown1 hb1
    by_cases hlt : k < l.length
    · rcases HI.out with h0 | ⟨b, off, rfl, hbl, hc⟩
      · omega
      · have x0 := (hbel.cell hbl).trans (hc k hlt)
        have hz := hbel.size
        have hm := mixS_len l k hk
        obtain ⟨z0, y0⟩ : ∃ u, wr.cell? ⟨w.heap.size, k, none⟩ = some u := ⟨_, owns_cell hown _ _ (strs_get (mixS l k) k (by omega))⟩
        have f0 := World.ownsRow.frozenAt hown k
        have hst := (World.ownsRow.stored hown k (.string l[k])).1
        rw [strs_set, mixS_set l k hlt] at hst
        have HS : Hid _ := hst
        have HB : Hid _ := hbel
        have hgl : w.heap.size < wr.heap.size := (hown.lt _ rfl).2
        clear hc hown hbel hst hm
        go_wp2_with fail
        go_roundw
        case rel => exact ⟨k + 1, by omega, by go_num, HS.out, HB.out.setCell (Nat.le_refl _) _⟩
        case measure => simp [intOf]; omega
    · go_wp2_with fail
      go_ret
      rw [mixS_full l k (by omega)] at hown
      exact ⟨⟨w.heap.size, rfl, Nat.le_refl _, readS_own hown, hown⟩, hbel⟩


end Go.Proofs.Ytbplmgmajmomcaa.Ns
