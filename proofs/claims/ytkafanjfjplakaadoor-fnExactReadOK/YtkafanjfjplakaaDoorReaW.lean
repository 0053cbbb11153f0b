/- The law's own walk of ReadOK. -/
import Derived.Test.YtkafanjfjplakaaDoorReaI
namespace Go.Proofs.YtkafanjfjplakaaDoor.ReadOKf
open Go.RowKit Rea
set_option linter.unusedVariables false

set_option maxRecDepth 8000 in
set_option maxHeartbeats 4000000 in
theorem walk (s : ByteArray) (p : Option Addr) (cap : Nat) (f : List (List Trm)) (hm : MaxR s f) (w : World) (hin : InCl w p f) :
    Calls Tryd.prog 3 #[.agg #[.string s, .slice p f.length cap]] w fun e w' => e = .returned (.bool true) ∧ Below w.heap.size w w' := by
  have X0 := BoxR.start w (.string s) (.slice p f.length cap) 26
  have HIN : Hid (InCl w p f) := hin
  have HZ : Hid (∀ W : World, InCl W p f → Calls _ _ _ W _) := fun W hW => szRead_any s p cap f 1048576 W hW hm (by omega) (by omega)
  clear hin hm
  go_enter Tryd.func3, Tryd.ntmps3
  go_wp2_with fail
  refine (HZ.out _ (HIN.out.step X0.bel)).mono ?_
  rintro e w1 ⟨⟨r, rfl, hr⟩, hb⟩
  have X1 := X0.step hb
  clear hb HZ X0
  rcases hr with hneg | ⟨hr0, hr1, hsz⟩
  · have hbw := X1.bel
    go_wp2_with fail
    go_ret
    exact ⟨rfl, hbw⟩
  have hnn : ¬ r < 0 := by omega
  have HSZ : Hid (SzR s f) := hsz
  have HTO : Hid (∀ W : World, InCl W p f → Calls _ _ _ W _) := fun W hW => toRead_any s p cap f W hW hsz
  have HS : Hid (∀ (g : Nat) (W : World), ReadC W g f → Calls _ _ _ W _) := fun g W hW => specRead_any s (some ⟨g, 0, none⟩) f.length f W (.inr ⟨g, rfl, hW⟩) hsz
  have HI : Hid (∀ (g : Nat) (W : World), ReadC W g f → Calls _ _ _ W _) := fun g W hW => readOK_any s (some ⟨g, 0, none⟩) f.length f W (.inr ⟨g, rfl, hW⟩) hsz
  obtain ⟨P, hP⟩ : ∃ P, P = readB s f := ⟨_, rfl⟩
  rw [← hP] at HS HI
  clear hsz hr1 hP
  have c0 := X1.c0
  have c1 := X1.c1
  go_wp2_with fail
  refine (HTO.out _ (HIN.out.step X1.bel)).mono ?_
  rintro e w2 ⟨⟨g2, rfl, O2⟩, hb⟩
  have X2 := X1.step hb
  have HO2 : Hid (ReadC _ _ _) := O2.read
  clear hb X1 c0 c1 O2
  go_wp2_with fail
  refine (HS.out g2 _ HO2.out).mono ?_
  rintro e w3 ⟨rfl, hb⟩
  have X3 := X2.step hb
  clear hb X2 HO2
  have c0 := X3.c0
  have c1 := X3.c1
  go_wp2_with fail
  refine (HTO.out _ (HIN.out.step X3.bel)).mono ?_
  rintro e w4 ⟨⟨g4, rfl, O4⟩, hb⟩
  have hbA : Below w4.heap.size w4 (w4.alloc (.cells #[.string s, .slice (some ⟨g4, 0, none⟩) f.length f.length] 33)) := (Below.refl _ _).alloc (Nat.le_refl _) _
  have X5 := (X3.step hb).step hbA
  have HO5 : Hid (ReadC _ _ _) := O4.read.next hbA
  have x5 : (w4.alloc (.cells #[.string s, .slice (some ⟨g4, 0, none⟩) f.length f.length] 33)).cell? ⟨w4.heap.size, 0, none⟩ = some (.string s) := by simp [go_sem]
  have y5 : (w4.alloc (.cells #[.string s, .slice (some ⟨g4, 0, none⟩) f.length f.length] 33)).cell? ⟨w4.heap.size, 1, none⟩ = some (.slice (some ⟨g4, 0, none⟩) f.length f.length) := by simp [go_sem]
  have m5 : w4.heap.size < (w4.alloc (.cells #[.string s, .slice (some ⟨g4, 0, none⟩) f.length f.length] 33)).heap.size := by simp
  clear hb X3 c0 c1 O4 hbA
  go_wp2_with fail
  generalize w4.alloc (.cells #[.string s, .slice (some ⟨g4, 0, none⟩) f.length f.length] 33) = W5 at X5 HO5 x5 y5 m5 ⊢
  refine (HI.out g4 _ HO5.out).mono ?_
  rintro e w6 ⟨rfl, hb⟩
  have X6 := X5.step hb
  have HO6 : Hid (ReadC _ _ _) := HO5.out.next hb
  have x6 := (hb.cell m5).trans x5
  have y6 := (hb.cell m5).trans y5
  have m6 : w4.heap.size < w6.heap.size := Nat.lt_of_lt_of_le m5 hb.size
  clear hb X5 HO5 x5 y5 m5
  obtain ⟨bx, hbx⟩ : ∃ bx, bx = w4.heap.size := ⟨_, rfl⟩
  rw [← hbx] at x6 y6 m6 ⊢
  clear hbx
  cases P
  all_goals
    go_wp2_with fail
    go_region_held3 (fun w0 => w0.cell? ⟨w.heap.size, 0, none⟩ = some (.string s) ∧ w0.cell? ⟨w.heap.size, 1, none⟩ = some (.slice p f.length cap) ∧ w0.cell? ⟨bx, 0, none⟩ = some (.string s) ∧ w0.cell? ⟨bx, 1, none⟩ = some (.slice (some ⟨g4, 0, none⟩) f.length f.length)) ((refine keepR X6 m6 x6 y6 ?_; (repeat (first | (with_reducible exact Below.refl _ _) | (with_reducible assumption) | (with_reducible apply below_drewN) | (with_reducible apply Below.drew) | ((with_reducible refine Below.setCell ?_ ?_ _); rotate_left; focus (first | (simp; done) | (simp; omega) | omega)) | ((with_reducible refine Below.alloc ?_ ?_ _); rotate_left; focus (first | (simp; done) | (simp; omega) | omega)))))) (first | (go_at_call 6; refine (HTO.out _ (HIN.out.step (X6.bel.trans ((show Below w6.heap.size w6 _ by (repeat (first | (with_reducible exact Below.refl _ _) | (with_reducible assumption) | (with_reducible apply below_drewN) | (with_reducible apply Below.drew) | ((with_reducible refine Below.setCell ?_ ?_ _); rotate_left; focus (first | (simp; done) | (simp; omega) | omega)) | ((with_reducible refine Below.alloc ?_ ?_ _); rotate_left; focus (first | (simp; done) | (simp; omega) | omega))))).mono X6.bel.size)))).mono ?_; rintro e w7 ⟨⟨g7, rfl, O7⟩, hb⟩; have hB7 : Below w6.heap.size w6 w7 := (show Below w6.heap.size w6 _ by (repeat (first | (with_reducible exact Below.refl _ _) | (with_reducible assumption) | (with_reducible apply below_drewN) | (with_reducible apply Below.drew) | ((with_reducible refine Below.setCell ?_ ?_ _); rotate_left; focus (first | (simp; done) | (simp; omega) | omega)) | ((with_reducible refine Below.alloc ?_ ?_ _); rotate_left; focus (first | (simp; done) | (simp; omega) | omega))))).trans (hb.mono (by simp)); have HO7 : Hid (ReadC w7 g7 f) := O7.read; clear hb O7) | (go_at_call 8; refine (eqRead_same s _ _ _ _ f _ (.inr ⟨_, rfl, HO6.out.next hB7⟩) (.inr ⟨_, rfl, HO7.out⟩) HSZ.out).mono ?_; rintro e w8 ⟨rfl, hb⟩; have hB8 : Below w6.heap.size w6 w8 := hB7.trans (hb.mono hB7.size); clear hb))
    have hbw := (X6.step hB8).bel
    go_wp2_with fail
    go_ret
    exact ⟨rfl, hbw⟩

end Go.Proofs.YtkafanjfjplakaaDoor.ReadOKf
