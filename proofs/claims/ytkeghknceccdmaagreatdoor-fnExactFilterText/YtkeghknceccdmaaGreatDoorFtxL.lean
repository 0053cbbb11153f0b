/- The law on the text of a filter, walked (whole). -/
import Derived.Test.YtkeghknceccdmaaGreatDoorFtxH
import Derived.Test.YtkeghknceccdmaaGreatDoorRowD
namespace Go.Proofs.YtkeghknceccdmaaGreatDoor
open Go.RowKit
set_option linter.unusedVariables false

set_option maxRecDepth 8000 in
set_option maxHeartbeats 4000000 in
theorem lawFT (a : Option Addr) (cap : Nat) (f : List (List Trm)) (hl : f.length ≤ maxLen) (hs : ∀ l ∈ f, maxC l) (w : World) (htab : Tab w.heap.size w) (hwd : Wds w.heap.size w) (hin : InCl w a f) :
    Calls Tryz.prog 4 #[.agg #[.slice a f.length cap]] w fun e w' => e = .returned (.bool true) ∧ Below w.heap.size w w' := by
  have hb0 : Below w.heap.size w (w.alloc (.cells #[.slice a f.length cap] 48)) := (Below.refl _ _).alloc (Nat.le_refl _) _
  have c0 : (w.alloc (.cells #[.slice a f.length cap] 48)).cell? ⟨w.heap.size, 0, none⟩ = some (.slice a f.length cap) := by simp [go_sem]
  have hl0 : w.heap.size < (w.alloc (.cells #[.slice a f.length cap] 48)).heap.size := by simp
  have HZ : Hid (Calls _ _ _ _ _) := szFilter_any a cap f 1048576 (w.alloc (.cells #[.slice a f.length cap] 48)) (hin.step hb0) hl hs (by omega) (by omega)
  have HIN : Hid (InCl _ _ _) := hin.step hb0
  have HT : Hid (Tab _ _) := htab
  have HW : Hid (Wds _ _) := hwd
  clear hin hs htab hwd
  go_enter Tryz.func4, Tryz.ntmps4
  go_wp2_with fail
  generalize w.alloc (.cells #[.slice a f.length cap] 48) = W0 at hb0 c0 hl0 HZ HIN ⊢
  refine HZ.out.mono ?_
  rintro e w1 ⟨⟨r, rfl, hr⟩, hb⟩
  have B1 := hb0.trans (hb.mono hb0.size)
  have k1 := (hb.cell hl0).trans c0
  have l1 : w.heap.size < w1.heap.size := Nat.lt_of_lt_of_le hl0 hb.size
  have HIN1 : Hid (InCl _ _ _) := HIN.out.step hb
  clear hb HIN HZ c0 hl0 hb0
  rcases hr with hneg | ⟨hr0, hr1, hr2, hr3⟩
  · go_wp2_with fail
    go_ret
    exact ⟨rfl, B1⟩
  have hnn : ¬ r < 0 := by omega
  have HSZ : Hid (∀ l ∈ f, szC l) := hr3
  have HSL : Hid (∀ l ∈ f, l.length ≤ 1048576) := fun l hl => (hr3 l hl).1
  clear hr3
  obtain ⟨P, hP⟩ : ∃ P, P = ftP f := ⟨_, rfl⟩
  have HS0 := fun (g c : Nat) (W : World) (hW : ReadC W g f) => specFT_any g c f W hW hr2 HSZ.out
  have HI0 := fun (g c : Nat) (W : World) (hW : ReadC W g f) (hB : Below w.heap.size w W) => implFT_any g c f W hW hr2 HSZ.out w.heap.size hB.size (Lib.TabBelow.on HT.out hB) (HW.out.on hB)
  rw [← hP] at HS0 HI0
  obtain ⟨p1, p2⟩ := P
  have HSS : Hid (∀ (g c : Nat) (W : World), ReadC W g f → Calls Tryz.prog 22 #[.agg #[.slice (some ⟨g, 0, none⟩) f.length c]] W fun e w' => e = .returned (.tuple #[.string p1, .int .i64 p2]) ∧ Below W.heap.size W w') := HS0
  have HII : Hid (∀ (g c : Nat) (W : World), ReadC W g f → Below w.heap.size w W → Calls Tryz.prog 24 #[.agg #[.slice (some ⟨g, 0, none⟩) f.length c]] W fun e w' => e = .returned (.tuple #[.string p1, .int .i64 p2]) ∧ Below W.heap.size W w') := HI0
  clear HS0 HI0 hP
  go_wp2_with fail
  refine (toFilter_any a cap f _ HIN1.out hr2 HSL.out).mono ?_
  rintro e w2 ⟨⟨g2, rfl, R2⟩, hb⟩
  have B2 := B1.trans (hb.mono B1.size)
  have k2 := (hb.cell l1).trans k1
  have l2 : w.heap.size < w2.heap.size := Nat.lt_of_lt_of_le l1 hb.size
  have HIN2 : Hid (InCl _ _ _) := HIN1.out.step hb
  have HR2 : Hid (ReadC _ _ _) := R2
  clear hb HIN1 k1 l1 B1 R2
  go_wp2_with fail
  refine (HSS.out g2 _ _ HR2.out).mono ?_
  rintro e w3 ⟨rfl, hb⟩
  have B3 := B2.trans (hb.mono B2.size)
  have k3 := (hb.cell l2).trans k2
  have l3 : w.heap.size < w3.heap.size := Nat.lt_of_lt_of_le l2 hb.size
  have HIN3 : Hid (InCl _ _ _) := HIN2.out.step hb
  clear hb HIN2 k2 l2 B2 HR2
  go_wp2_with fail
  refine (toFilter_any a cap f _ HIN3.out hr2 HSL.out).mono ?_
  rintro e w4 ⟨⟨g4, rfl, R4⟩, hb⟩
  have hbA : Below w3.heap.size w3 (w4.alloc (.cells #[.slice (some ⟨g4, 0, none⟩) f.length f.length] 53)) := hb.alloc hb.size _
  have B5 := B3.trans (hbA.mono B3.size)
  have k5 := (hbA.cell l3).trans k3
  have l5 : w.heap.size < (w4.alloc (.cells #[.slice (some ⟨g4, 0, none⟩) f.length f.length] 53)).heap.size := Nat.lt_of_lt_of_le l3 hbA.size
  have HIN5 : Hid (InCl _ _ _) := HIN3.out.step hbA
  have HR5 : Hid (ReadC _ _ _) := R4.next ((Below.refl _ _).alloc (Nat.le_refl _) (.cells #[.slice (some ⟨g4, 0, none⟩) f.length f.length] 53))
  have x5 : (w4.alloc (.cells #[.slice (some ⟨g4, 0, none⟩) f.length f.length] 53)).cell? ⟨w4.heap.size, 0, none⟩ = some (.slice (some ⟨g4, 0, none⟩) f.length f.length) := by simp [go_sem]
  have m5 : w4.heap.size < (w4.alloc (.cells #[.slice (some ⟨g4, 0, none⟩) f.length f.length] 53)).heap.size := by simp
  clear hb hbA HIN3 k3 l3 B3 R4
  go_wp2_with fail
  generalize w4.alloc (.cells #[.slice (some ⟨g4, 0, none⟩) f.length f.length] 53) = W5 at B5 k5 l5 HIN5 HR5 x5 m5 ⊢
  obtain ⟨bx, hbx⟩ : ∃ bx, bx = w4.heap.size := ⟨_, rfl⟩
  rw [← hbx] at x5 m5 ⊢
  clear hbx
  refine (HII.out g4 _ _ HR5.out B5).mono ?_
  rintro e w6 ⟨rfl, hb⟩
  have B6 := B5.trans (hb.mono B5.size)
  have k6 := (hb.cell l5).trans k5
  have l6 : w.heap.size < w6.heap.size := Nat.lt_of_lt_of_le l5 hb.size
  have x6 := (hb.cell m5).trans x5
  have m6 : bx < w6.heap.size := Nat.lt_of_lt_of_le m5 hb.size
  have HIN6 : Hid (InCl _ _ _) := HIN5.out.step hb
  have HR6 : Hid (ReadC _ _ _) := HR5.out.next hb
  clear hb HIN5 k5 l5 B5 HR5 x5 m5
  go_wp2_with fail
  go_region_with (first | (go_at_call 23; refine (toFilter_any a cap f _ (HIN6.out.step (by (repeat (first | (with_reducible exact Below.refl _ _) | (with_reducible assumption) | (with_reducible apply below_drewN) | (with_reducible apply Below.drew) | ((with_reducible refine Below.setCell ?_ ?_ _); rotate_left; focus (first | (simp; done) | (simp; omega) | omega)) | ((with_reducible refine Below.alloc ?_ ?_ _); rotate_left; focus (first | (simp; done) | (simp; omega) | omega)))))) hr2 HSL.out).mono ?_; rintro e w7 ⟨⟨g7, rfl, R7⟩, hb⟩; have hB7 : Below w6.heap.size w6 w7 := (show Below w6.heap.size w6 _ by (repeat (first | (with_reducible exact Below.refl _ _) | (with_reducible assumption) | (with_reducible apply below_drewN) | (with_reducible apply Below.drew) | ((with_reducible refine Below.setCell ?_ ?_ _); rotate_left; focus (first | (simp; done) | (simp; omega) | omega)) | ((with_reducible refine Below.alloc ?_ ?_ _); rotate_left; focus (first | (simp; done) | (simp; omega) | omega))))).trans (hb.mono (by simp)); have x7 := (hB7.cell m6).trans x6; have k7 := (hB7.cell l6).trans k6; have HR7 : Hid (ReadC _ _ _) := R7; clear R7 hb) | (go_at_call 25; refine (eqFilter_same _ _ _ _ f _ (.inr ⟨g4, rfl, HR6.out.next hB7⟩) (.inr ⟨g7, rfl, HR7.out⟩) hr2 HSL.out).mono ?_; rintro e w8 ⟨rfl, hb⟩; have hB8 := hB7.trans (hb.mono hB7.size); clear hb))
  all_goals
    have hbz := B6.trans (hB8.mono B6.size)
    go_wp2_with fail
    go_ret
    exact ⟨rfl, hbz⟩

end Go.Proofs.YtkeghknceccdmaaGreatDoor
