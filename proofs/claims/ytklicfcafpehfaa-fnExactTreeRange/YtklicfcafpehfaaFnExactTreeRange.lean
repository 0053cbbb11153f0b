/- For every tree and every interval that a caller can hand in: the program's TreeRange answers as the specification does, changes nothing of what it was given, and its answer owns its memory; no condition. -/
import Derived.Test.YtklicfcafpehfaaRngK
import Derived.Test.YtklicfcafpehfaaRows
import Derived.ProofKit
import Derived.OpenShut
import Derived.ShutString
import Derived.ChangeOld
import Derived.Below
import Derived.Lib.SmallJoins
namespace Go.Proofs.Ytklicfcafpehfaa
open Go.ChangeShapes Go.WideShapes Go.ChangeAt Go.RowKit Go.Joins
open Go.ChangeMaps (open_string shut_string)
set_option linter.unusedVariables false
namespace TreeRangef
open Tr

set_option maxRecDepth 8000 in
set_option maxHeartbeats 8000000 in
theorem walk (a : Option Addr) (cap : Nat) (f : List Pg) (next : Int) (hl : f.length ≤ maxLen) (hs : ∀ l ∈ f, maxP l) (ilo ihi : ByteArray) (iop : Bool) (hwlo : ilo.size ≤ maxLen) (hwhi : ihi.size ≤ maxLen) (w : World) (hin : InP w a f) :
    Calls Try.prog 12 #[.agg #[.slice a f.length cap, .int .i64 next], .agg #[.string ilo, .string ihi, .bool iop]] w fun e w' => e = .returned (.bool true) ∧ Below w.heap.size w w' := by
  have X0 := BoxTI.start w (.slice a f.length cap) next ⟨ilo, ihi, iop⟩ 81 89
  have HIN : Hid (InP _ _ _) := hin
  have HZ : Hid (∀ W : World, InP W a f → Calls _ _ _ W _) := fun W hW => szTree_any a cap f next 1048576 W hW hl hs (by omega) (by omega)
  clear hin hs
  go_enter Try.func12, Try.ntmps12
  go_wp2_with fail
  refine (HZ.out _ (HIN.out.step X0.bel)).mono ?_
  rintro e w1 ⟨⟨r, rfl, hr⟩, hb⟩
  have X1 := X0.step hb
  clear hb HZ X0
  rcases hr with hneg | ⟨hr0, hr1, hr2, hr3⟩
  · have hbw := X1.bel
    go_wp2_with fail
    go_ret
    exact ⟨rfl, hbw⟩
  have hnn : ¬ r < 0 := by omega
  have HSZ : Hid (∀ l ∈ f, szP l) := hr3
  have HSL : Hid (∀ l ∈ f, l.es.length ≤ 1048576) := fun l hl => (hr3 l hl).1
  clear hr3
  have f0 := X1.d0
  have f1 := X1.d1
  have f2 := X1.d2
  go_wp2_with fail
  refine (szInterval_any ilo ihi iop _ _ hwlo hwhi hr0 (by omega)).mono ?_
  rintro e w2 ⟨rfl, hb⟩
  have X2 := X1.step hb
  clear hb X1 f0 f1 f2
  by_cases hbig : r < ilo.size + ihi.size
  · rw [if_pos hbig]
    have hbw := X2.bel
    go_wp2_with fail
    go_ret
    exact ⟨rfl, hbw⟩
  rw [if_neg hbig]
  have hnn2 : ¬ (r - (ilo.size : Int) - (ihi.size : Int) < 0) := by omega
  have HS0 := fun (p : Option Addr) (c : Nat) (W : World) (hW : RowP W p f) => specTreeRange_any p c f next ⟨ilo, ihi, iop⟩ W hW hr2 HSZ.out
  have HI0 := fun (p : Option Addr) (c : Nat) (W : World) (hW : RowP W p f) (hc : f.length ≤ c) => treeRange_any p c f next ⟨ilo, ihi, iop⟩ W hW hr2 hc HSZ.out
  have hE := rangeE_len f next ⟨ilo, ihi, iop⟩
  have hN := rangeN_len f next ⟨ilo, ihi, iop⟩
  obtain ⟨E, hEe⟩ : ∃ E, E = rangeE f next ⟨ilo, ihi, iop⟩ := ⟨_, rfl⟩
  obtain ⟨N, hNe⟩ : ∃ N, N = rangeN f next ⟨ilo, ihi, iop⟩ := ⟨_, rfl⟩
  obtain ⟨C, hCe⟩ : ∃ C, C = rangeC f next := ⟨_, rfl⟩
  rw [← hEe, ← hNe, ← hCe] at HS0 HI0
  rw [← hEe] at hE
  rw [← hNe] at hN
  have HS : Hid (∀ (p : Option Addr) (c : Nat) (W : World), RowP W p f → Calls Try.prog 41 #[.agg #[.slice p f.length c, .int .i64 next], .agg #[.string ilo, .string ihi, .bool iop]] W fun e w' => (∃ v1 v2, e = .returned (.tuple #[v1, v2, .int .i64 C]) ∧ OwnE w' W.heap.size v1 E ∧ OwnI w' W.heap.size v2 N) ∧ Below W.heap.size W w') := HS0
  have HI : Hid (∀ (p : Option Addr) (c : Nat) (W : World), RowP W p f → f.length ≤ c → Calls Try.prog 36 #[.agg #[.slice p f.length c, .int .i64 next], .agg #[.string ilo, .string ihi, .bool iop]] W fun e w' => (∃ v1 v2, e = .returned (.tuple #[v1, v2, .int .i64 C]) ∧ OwnE w' W.heap.size v1 E ∧ OwnI w' W.heap.size v2 N) ∧ Below W.heap.size W w') := HI0
  clear HS0 HI0 hEe hNe hCe
  go_wp2_with fail
  go_region_held3 (fun w0 => w0.cell? ⟨w.heap.size, 0, none⟩ = some (.slice a f.length cap) ∧ w0.cell? ⟨w.heap.size, 1, none⟩ = some (.int .i64 next) ∧ w0.cell? ⟨w.heap.size + 1, 0, none⟩ = some (.string ilo) ∧ w0.cell? ⟨w.heap.size + 1, 1, none⟩ = some (.string ihi) ∧ w0.cell? ⟨w.heap.size + 1, 2, none⟩ = some (.bool iop)) ((refine keepT X2 ?_; (repeat (first | (with_reducible exact Below.refl _ _) | (with_reducible assumption) | (with_reducible apply below_drewN) | (with_reducible apply Below.drew) | ((with_reducible refine Below.setCell ?_ ?_ _); rotate_left; focus (first | (simp; done) | (simp; omega) | omega)) | ((with_reducible refine Below.alloc ?_ ?_ _); rotate_left; focus (first | (simp; done) | (simp; omega) | omega)))))) (first | (go_at_call 56; refine (toTree_any a cap f next _ (HIN.out.step (X2.bel.trans ((show Below w2.heap.size w2 _ by (repeat (first | (with_reducible exact Below.refl _ _) | (with_reducible assumption) | (with_reducible apply below_drewN) | (with_reducible apply Below.drew) | ((with_reducible refine Below.setCell ?_ ?_ _); rotate_left; focus (first | (simp; done) | (simp; omega) | omega)) | ((with_reducible refine Below.alloc ?_ ?_ _); rotate_left; focus (first | (simp; done) | (simp; omega) | omega))))).mono X2.bel.size))) hr2 HSL.out).mono ?_; rintro e w3 ⟨⟨g3, rfl, R3⟩, hb⟩; have hB3 : Below w2.heap.size w2 w3 := (show Below w2.heap.size w2 _ by (repeat (first | (with_reducible exact Below.refl _ _) | (with_reducible assumption) | (with_reducible apply below_drewN) | (with_reducible apply Below.drew) | ((with_reducible refine Below.setCell ?_ ?_ _); rotate_left; focus (first | (simp; done) | (simp; omega) | omega)) | ((with_reducible refine Below.alloc ?_ ?_ _); rotate_left; focus (first | (simp; done) | (simp; omega) | omega))))).trans (hb.mono (by simp)); have HR3 : Hid (OwnT _ _ _ _) := R3; clear R3 hb) | (go_at_call 61; refine (toInterval_any ilo ihi iop _).mono ?_; rintro e w4 ⟨rfl, hb⟩; have hB4 : Below w2.heap.size w2 w4 := hB3.trans (hb.mono hB3.size); have HR4 : Hid (OwnT _ _ _ _) := HR3.out.next hb; clear hb) | (go_at_call 41; refine (HS.out _ _ _ HR4.out.rowP).mono ?_; rintro e w5 ⟨⟨s1, s2, rfl, O1, O2⟩, hb⟩; have hB5 : Below w2.heap.size w2 w5 := hB4.trans (hb.mono hB4.size); have HO1 : Hid (OwnE _ _ _ _) := O1; have HO2 : Hid (OwnI _ _ _ _) := O2; clear hb O1 O2))
  have X5 := X2.step hB5
  have HL1 : Hid (∀ g, s1.ownBlock = some g → g < w5.heap.size) := fun g hg => (World.ownsRow.lt HO1.out g hg).2
  have HL2 : Hid (∀ g, s2.ownBlock = some g → g < w5.heap.size) := fun g hg => (World.ownsRow.lt HO2.out g hg).2
  have k5 := X5.c0
  have l5 := X5.c1
  clear hB3 hB4 hB5 HR3 HR4 X2
  go_wp2_with fail
  refine (toTree_any a cap f next _ (HIN.out.step X5.bel) hr2 HSL.out).mono ?_
  rintro e w6 ⟨⟨g6, rfl, R6⟩, hb⟩
  have hbA : Below w5.heap.size w5 (w6.alloc (.cells #[.slice (some ⟨g6, 0, none⟩) f.length f.length, .int .i64 next] 51)) := hb.alloc hb.size _
  have X7 := X5.step hbA
  have HR7 : Hid (OwnH _ _ _ _ _) := R6.ownH.next ((Below.refl _ _).alloc (Nat.le_refl _) (.cells #[.slice (some ⟨g6, 0, none⟩) f.length f.length, .int .i64 next] 51))
  have H17 : Hid (OwnE _ _ _ _) := owns_below HO1.out hbA
  have H27 : Hid (OwnI _ _ _ _) := owns_below HO2.out hbA
  have x7 : (w6.alloc (.cells #[.slice (some ⟨g6, 0, none⟩) f.length f.length, .int .i64 next] 51)).cell? ⟨w6.heap.size, 0, none⟩ = some (.slice (some ⟨g6, 0, none⟩) f.length f.length) := by simp [go_sem]
  have y7 : (w6.alloc (.cells #[.slice (some ⟨g6, 0, none⟩) f.length f.length, .int .i64 next] 51)).cell? ⟨w6.heap.size, 1, none⟩ = some (.int .i64 next) := by simp [go_sem]
  have m7 : w6.heap.size < (w6.alloc (.cells #[.slice (some ⟨g6, 0, none⟩) f.length f.length, .int .i64 next] 51)).heap.size := by simp
  have hz5 := X5.lt
  have hz56 := hb.size
  clear hb hbA X5 R6 k5 l5 HO1 HO2
  go_wp2_with fail
  generalize w6.alloc (.cells #[.slice (some ⟨g6, 0, none⟩) f.length f.length, .int .i64 next] 51) = W7 at X7 HR7 H17 H27 x7 y7 m7 ⊢
  obtain ⟨bx, hbx⟩ : ∃ bx, bx = w6.heap.size := ⟨_, rfl⟩
  rw [← hbx] at HR7 x7 y7 m7 hz56 ⊢
  clear hbx
  go_region_held3 (fun w0 => w0.cell? ⟨w.heap.size, 0, none⟩ = some (.slice a f.length cap) ∧ w0.cell? ⟨w.heap.size, 1, none⟩ = some (.int .i64 next) ∧ w0.cell? ⟨w.heap.size + 1, 0, none⟩ = some (.string ilo) ∧ w0.cell? ⟨w.heap.size + 1, 1, none⟩ = some (.string ihi) ∧ w0.cell? ⟨w.heap.size + 1, 2, none⟩ = some (.bool iop) ∧ w0.cell? ⟨bx, 0, none⟩ = some (.slice (some ⟨g6, 0, none⟩) f.length f.length) ∧ w0.cell? ⟨bx, 1, none⟩ = some (.int .i64 next)) ((refine keepU X7 m7 x7 y7 ?_; (repeat (first | (with_reducible exact Below.refl _ _) | (with_reducible assumption) | (with_reducible apply below_drewN) | (with_reducible apply Below.drew) | ((with_reducible refine Below.setCell ?_ ?_ _); rotate_left; focus (first | (simp; done) | (simp; omega) | omega)) | ((with_reducible refine Below.alloc ?_ ?_ _); rotate_left; focus (first | (simp; done) | (simp; omega) | omega)))))) (first | (go_at_call 61; refine (toInterval_any ilo ihi iop _).mono ?_; rintro e w8 ⟨rfl, hb⟩; have hB8 : Below W7.heap.size W7 w8 := (show Below W7.heap.size W7 _ by (repeat (first | (with_reducible exact Below.refl _ _) | (with_reducible assumption) | (with_reducible apply below_drewN) | (with_reducible apply Below.drew) | ((with_reducible refine Below.setCell ?_ ?_ _); rotate_left; focus (first | (simp; done) | (simp; omega) | omega)) | ((with_reducible refine Below.alloc ?_ ?_ _); rotate_left; focus (first | (simp; done) | (simp; omega) | omega))))).trans (hb.mono (by simp)); have HR8 : Hid (OwnH _ _ _ _ _) := HR7.out.next hB8; clear hb) | (go_at_call 36; refine (HI.out _ _ _ HR8.out.ownT.rowP (Nat.le_refl _)).mono ?_; rintro e w9 ⟨⟨t1, t2, rfl, O1, O2⟩, hb⟩; have hB9 : Below W7.heap.size W7 w9 := hB8.trans (hb.mono hB8.size); have HT1 : Hid (OwnE w9 W7.heap.size t1 E) := owns_mono O1 hB8.size; have HT2 : Hid (OwnI w9 W7.heap.size t2 N) := owns_mono O2 hB8.size; clear hb O1 O2))
  have X9 := X7.step hB9
  have HR9 : Hid (OwnH _ _ _ _ _) := HR7.out.next hB9
  have H19 : Hid (OwnE _ _ _ _) := owns_below H17.out hB9
  have H29 : Hid (OwnI _ _ _ _) := owns_below H27.out hB9
  have x9 := (hB9.cell m7).trans x7
  have y9 := (hB9.cell m7).trans y7
  have m9 : bx < w9.heap.size := Nat.lt_of_lt_of_le m7 hB9.size
  have hz9 := hB9.size
  clear hB8 hB9 HR8 X7 HR7 H17 H27 x7 y7
  go_wp2_with fail
  refine (eqEntryS_own HT1.out H19.out (by omega)).mono ?_
  rintro e wA ⟨rfl, hbA⟩
  have T1A : Hid (OwnE _ _ _ _) := owns_below HT1.out hbA
  have T2A : Hid (OwnI _ _ _ _) := owns_below HT2.out hbA
  have S1A : Hid (OwnE _ _ _ _) := owns_below H19.out hbA
  have S2A : Hid (OwnI _ _ _ _) := owns_below H29.out hbA
  have RA : Hid (OwnH _ _ _ _ _) := HR9.out.next hbA
  have XA := X9.step hbA
  have xA := (hbA.cell m9).trans x9
  have yA := (hbA.cell m9).trans y9
  have mA : bx < wA.heap.size := Nat.lt_of_lt_of_le m9 hbA.size
  have hzA := hbA.size
  clear hbA HT1 HT2 H19 H29 HR9 X9 x9 y9 m9
  go_wp2_with fail
  refine (eqIntS_own T2A.out S2A.out (by omega)).mono ?_
  rintro e wB ⟨rfl, hbB⟩
  have T1B : Hid (OwnE _ _ _ _) := owns_below T1A.out hbB
  have T2B : Hid (OwnI _ _ _ _) := owns_below T2A.out hbB
  have S1B : Hid (OwnE _ _ _ _) := owns_below S1A.out hbB
  have S2B : Hid (OwnI _ _ _ _) := owns_below S2A.out hbB
  have RB : Hid (OwnH _ _ _ _ _) := RA.out.next hbB
  have XB := XA.step hbB
  have xB := (hbB.cell mA).trans xA
  have yB := (hbB.cell mA).trans yA
  have mB : bx < wB.heap.size := Nat.lt_of_lt_of_le mA hbB.size
  have hzB := hbB.size
  clear hbB T1A T2A S1A S2A RA XA xA yA mA
  go_wp2_with fail
  go_region_held3 (fun w0 => w0.cell? ⟨w.heap.size, 0, none⟩ = some (.slice a f.length cap) ∧ w0.cell? ⟨w.heap.size, 1, none⟩ = some (.int .i64 next) ∧ w0.cell? ⟨w.heap.size + 1, 0, none⟩ = some (.string ilo) ∧ w0.cell? ⟨w.heap.size + 1, 1, none⟩ = some (.string ihi) ∧ w0.cell? ⟨w.heap.size + 1, 2, none⟩ = some (.bool iop) ∧ w0.cell? ⟨bx, 0, none⟩ = some (.slice (some ⟨g6, 0, none⟩) f.length f.length) ∧ w0.cell? ⟨bx, 1, none⟩ = some (.int .i64 next)) ((refine keepU XB mB xB yB ?_; (repeat (first | (with_reducible exact Below.refl _ _) | (with_reducible assumption) | (with_reducible apply below_drewN) | (with_reducible apply Below.drew) | ((with_reducible refine Below.setCell ?_ ?_ _); rotate_left; focus (first | (simp; done) | (simp; omega) | omega)) | ((with_reducible refine Below.alloc ?_ ?_ _); rotate_left; focus (first | (simp; done) | (simp; omega) | omega)))))) (first | (go_at_call 56; refine (toTree_any a cap f next _ (HIN.out.step (XB.bel.trans ((show Below wB.heap.size wB _ by (repeat (first | (with_reducible exact Below.refl _ _) | (with_reducible assumption) | (with_reducible apply below_drewN) | (with_reducible apply Below.drew) | ((with_reducible refine Below.setCell ?_ ?_ _); rotate_left; focus (first | (simp; done) | (simp; omega) | omega)) | ((with_reducible refine Below.alloc ?_ ?_ _); rotate_left; focus (first | (simp; done) | (simp; omega) | omega))))).mono XB.bel.size))) hr2 HSL.out).mono ?_; rintro e wC ⟨⟨gC, rfl, RC⟩, hb⟩; have hBC : Below wB.heap.size wB wC := (show Below wB.heap.size wB _ by (repeat (first | (with_reducible exact Below.refl _ _) | (with_reducible assumption) | (with_reducible apply below_drewN) | (with_reducible apply Below.drew) | ((with_reducible refine Below.setCell ?_ ?_ _); rotate_left; focus (first | (simp; done) | (simp; omega) | omega)) | ((with_reducible refine Below.alloc ?_ ?_ _); rotate_left; focus (first | (simp; done) | (simp; omega) | omega))))).trans (hb.mono (by simp)); have HRC : Hid (OwnT _ _ _ _) := RC; clear RC hb) | (go_at_call 51; refine (eqTree_same _ _ _ _ f next _ (RB.out.next hBC).ownT.rowP HRC.out.rowP hr2 HSL.out).mono ?_; rintro e wD ⟨rfl, hb⟩; have hBD : Below wB.heap.size wB wD := hBC.trans (hb.mono hBC.size); clear hb))
  have T1D : Hid (OwnE _ _ _ _) := owns_below T1B.out hBD
  have T2D : Hid (OwnI _ _ _ _) := owns_below T2B.out hBD
  have S1D : Hid (OwnE _ _ _ _) := owns_below S1B.out hBD
  have S2D : Hid (OwnI _ _ _ _) := owns_below S2B.out hBD
  have RD : Hid (OwnH _ _ _ _ _) := RB.out.next hBD
  have XD := XB.step hBD
  have xD := (hBD.cell mB).trans xB
  have yD := (hBD.cell mB).trans yB
  have mD : bx < wD.heap.size := Nat.lt_of_lt_of_le mB hBD.size
  have hzD := hBD.size
  clear hBC hBD HRC T1B T2B S1B S2B RB XB xB yB mB
  go_wp2_with fail
  refine (markTree_any w5.heap.size bx (.slice (some ⟨g6, 0, none⟩) f.length f.length) f next wD RD.out (by omega) hr2 HSL.out).mono ?_
  rintro e wE ⟨rfl, _, hc⟩
  have B5E : Below w5.heap.size wD wE := hc.below (Nat.le_refl _) (by omega)
  have T1E : Hid (OwnE _ _ _ _) := hc.owns T1D.out (fun g hg => .inr (by have := (World.ownsRow.lt T1D.out g hg).1; omega))
  have T2E : Hid (OwnI _ _ _ _) := hc.owns T2D.out (fun g hg => .inr (by have := (World.ownsRow.lt T2D.out g hg).1; omega))
  have S1E : Hid (OwnE _ _ _ _) := hc.owns S1D.out (fun g hg => .inl (HL1.out g hg))
  have S2E : Hid (OwnI _ _ _ _) := hc.owns S2D.out (fun g hg => .inl (HL2.out g hg))
  have XE := XD.belowStep B5E (by omega)
  have hzE := hc.size
  have hkk := endP_ge 1 f
  obtain ⟨K, hK⟩ : ∃ K, K = endP 1 f := ⟨_, rfl⟩
  rw [← hK] at hkk ⊢
  clear hc B5E T1D T2D S1D S2D RD XD xD yD hK
  go_wp2_with fail
  refine (eqEntryS_own T1E.out S1E.out (by omega)).mono ?_
  rintro e wF ⟨rfl, hbF⟩
  have T1F : Hid (OwnE _ _ _ _) := owns_below T1E.out hbF
  have T2F : Hid (OwnI _ _ _ _) := owns_below T2E.out hbF
  have S1F : Hid (OwnE _ _ _ _) := owns_below S1E.out hbF
  have S2F : Hid (OwnI _ _ _ _) := owns_below S2E.out hbF
  have XF := XE.step hbF
  have hzF := hbF.size
  clear hbF T1E T2E S1E S2E XE
  go_wp2_with fail
  refine (eqIntS_own T2F.out S2F.out (by omega)).mono ?_
  rintro e wG ⟨rfl, hbG⟩
  have T1G : Hid (OwnE _ _ _ _) := owns_below T1F.out hbG
  have T2G : Hid (OwnI _ _ _ _) := owns_below T2F.out hbG
  have S1G : Hid (OwnE _ _ _ _) := owns_below S1F.out hbG
  have S2G : Hid (OwnI _ _ _ _) := owns_below S2F.out hbG
  have XG := XF.step hbG
  have hzG := hbG.size
  clear hbG T1F T2F S1F S2F XF
  go_wp2_with fail
  refine (markEntryS_any W7.heap.size t1 E 1 wG T1G.out (by omega) (by omega) (by omega)).mono ?_
  rintro e wH ⟨rfl, O1, hg⟩
  have BH : Below W7.heap.size wG wH := Below.grown (Below.refl _ _) hg (by omega) (fun g h => (World.ownsRow.lt T1G.out g h).1)
  have T1H : Hid (OwnE _ _ _ _) := O1
  have T2H : Hid (OwnI _ _ _ _) := World.ownsRow.kept T2G.out hg (owns_types T2G.out T1G.out tne')
  have S1H : Hid (OwnE _ _ _ _) := owns_lower BH S1G.out (fun g h => by have := HL1.out g h; omega)
  have S2H : Hid (OwnI _ _ _ _) := owns_lower BH S2G.out (fun g h => by have := HL2.out g h; omega)
  have XH := XG.belowStep BH (by omega)
  have hzH := BH.size
  clear O1 hg BH T1G T2G S1G S2G XG
  obtain ⟨m1, hm1⟩ : ∃ m1 : Nat, m1 = 1 + 2 * E.length := ⟨_, rfl⟩
  rw [← hm1]
  have hm1b : m1 ≤ 1048576 := by omega
  have HM1 : Hid _ := hm1
  clear hm1
  go_wp2_with fail
  refine (markIntS_any W7.heap.size t2 N m1 wH T2H.out hm1b (by omega)).mono ?_
  rintro e wI ⟨rfl, O2, hg⟩
  have BI : Below W7.heap.size wH wI := Below.grown (Below.refl _ _) hg (by omega) (fun g h => (World.ownsRow.lt T2H.out g h).1)
  have T2I : Hid (OwnI _ _ _ _) := O2
  have T1I : Hid (OwnE _ _ _ _) := World.ownsRow.kept T1H.out hg (owns_types T1H.out T2H.out tne)
  have S1I : Hid (OwnE _ _ _ _) := owns_lower BI S1H.out (fun g h => by have := HL1.out g h; omega)
  have S2I : Hid (OwnI _ _ _ _) := owns_lower BI S2H.out (fun g h => by have := HL2.out g h; omega)
  have XI := XH.belowStep BI (by omega)
  have hzI := BI.size
  clear O2 hg BI T1H T2H S1H S2H XH
  obtain ⟨m2, hm2⟩ : ∃ m2 : Nat, m2 = m1 + N.length := ⟨_, rfl⟩
  rw [← hm2]
  have HM2 : Hid _ := hm2
  clear hm2
  go_wp2_with fail
  have HC1 := heldEntryS_own T1I.out (by omega) (by omega) (by omega)
  rw [← HM1.out] at HC1
  refine HC1.mono ?_
  clear HC1
  rintro e wJ ⟨rfl, hbJ⟩
  have T1J : Hid (OwnE _ _ _ _) := owns_below T1I.out hbJ
  have T2J : Hid (OwnI _ _ _ _) := owns_below T2I.out hbJ
  have S1J : Hid (OwnE _ _ _ _) := owns_below S1I.out hbJ
  have S2J : Hid (OwnI _ _ _ _) := owns_below S2I.out hbJ
  have XJ := XI.step hbJ
  clear hbJ T1I T2I S1I S2I XI
  go_wp2_with fail
  have HC2 := heldIntS_own T2J.out hm1b (by omega)
  rw [← HM2.out] at HC2
  refine HC2.mono ?_
  clear HC2
  rintro e wK ⟨rfl, hbK⟩
  have T1K : Hid (OwnE _ _ _ _) := owns_below T1J.out hbK
  have T2K : Hid (OwnI _ _ _ _) := owns_below T2J.out hbK
  have S1K : Hid (OwnE _ _ _ _) := owns_below S1J.out hbK
  have S2K : Hid (OwnI _ _ _ _) := owns_below S2J.out hbK
  have XK := XJ.step hbK
  clear hbK T1J T2J S1J S2J XJ
  go_wp2_with fail
  go_region_held3 (fun w0 => w0.cell? ⟨w.heap.size, 0, none⟩ = some (.slice a f.length cap) ∧ w0.cell? ⟨w.heap.size, 1, none⟩ = some (.int .i64 next) ∧ w0.cell? ⟨w.heap.size + 1, 0, none⟩ = some (.string ilo) ∧ w0.cell? ⟨w.heap.size + 1, 1, none⟩ = some (.string ihi) ∧ w0.cell? ⟨w.heap.size + 1, 2, none⟩ = some (.bool iop)) ((refine keepT XK ?_; (repeat (first | (with_reducible exact Below.refl _ _) | (with_reducible assumption) | (with_reducible apply below_drewN) | (with_reducible apply Below.drew) | ((with_reducible refine Below.setCell ?_ ?_ _); rotate_left; focus (first | (simp; done) | (simp; omega) | omega)) | ((with_reducible refine Below.alloc ?_ ?_ _); rotate_left; focus (first | (simp; done) | (simp; omega) | omega)))))) (first | (go_at_call 56; refine (toTree_any a cap f next _ (HIN.out.step (XK.bel.trans ((show Below wK.heap.size wK _ by (repeat (first | (with_reducible exact Below.refl _ _) | (with_reducible assumption) | (with_reducible apply below_drewN) | (with_reducible apply Below.drew) | ((with_reducible refine Below.setCell ?_ ?_ _); rotate_left; focus (first | (simp; done) | (simp; omega) | omega)) | ((with_reducible refine Below.alloc ?_ ?_ _); rotate_left; focus (first | (simp; done) | (simp; omega) | omega))))).mono XK.bel.size))) hr2 HSL.out).mono ?_; rintro e wL ⟨⟨gL, rfl, RL⟩, hb⟩; have hBL : Below wK.heap.size wK wL := (show Below wK.heap.size wK _ by (repeat (first | (with_reducible exact Below.refl _ _) | (with_reducible assumption) | (with_reducible apply below_drewN) | (with_reducible apply Below.drew) | ((with_reducible refine Below.setCell ?_ ?_ _); rotate_left; focus (first | (simp; done) | (simp; omega) | omega)) | ((with_reducible refine Below.alloc ?_ ?_ _); rotate_left; focus (first | (simp; done) | (simp; omega) | omega))))).trans (hb.mono (by simp)); have HRL : Hid (OwnT _ _ _ _) := RL; clear RL hb) | (go_at_call 61; refine (toInterval_any ilo ihi iop _).mono ?_; rintro e wM ⟨rfl, hb⟩; have hBM : Below wK.heap.size wK wM := hBL.trans (hb.mono hBL.size); have HRM : Hid (OwnT _ _ _ _) := HRL.out.next hb; clear hb) | (go_at_call 36; refine (HI.out _ _ _ HRM.out.rowP (Nat.le_refl _)).mono ?_; rintro e wN ⟨⟨n1, n2, rfl, O1, O2⟩, hb⟩; have hBN : Below wK.heap.size wK wN := hBM.trans (hb.mono hBM.size); have HN1 : Hid (OwnE _ _ _ _) := O1; have HN2 : Hid (OwnI _ _ _ _) := O2; clear hb O1 O2))
  have T1N : Hid (OwnE _ _ _ _) := owns_below T1K.out hBN
  have T2N : Hid (OwnI _ _ _ _) := owns_below T2K.out hBN
  have S1N : Hid (OwnE _ _ _ _) := owns_below S1K.out hBN
  have S2N : Hid (OwnI _ _ _ _) := owns_below S2K.out hBN
  have BN := XK.bel.trans (hBN.mono XK.bel.size)
  clear hBL hBM hBN HRL HRM T1K T2K S1K S2K XK
  go_wp2_with fail
  refine (eqEntryS_own HN1.out S1N.out (by omega)).mono ?_
  rintro e wO ⟨rfl, hbO⟩
  have T1O : Hid (OwnE _ _ _ _) := owns_below T1N.out hbO
  have T2O : Hid (OwnI _ _ _ _) := owns_below T2N.out hbO
  have S2O : Hid (OwnI _ _ _ _) := owns_below S2N.out hbO
  have HN2O : Hid (OwnI _ _ _ _) := owns_below HN2.out hbO
  have BO := BN.trans (hbO.mono BN.size)
  clear hbO T1N T2N S1N S2N HN1 HN2 BN
  go_wp2_with fail
  refine (eqIntS_own HN2O.out S2O.out (by omega)).mono ?_
  rintro e wP ⟨rfl, hbP⟩
  have T1P : Hid (OwnE _ _ _ _) := owns_below T1O.out hbP
  have T2P : Hid (OwnI _ _ _ _) := owns_below T2O.out hbP
  have BP := BO.trans (hbP.mono BO.size)
  clear hbP T1O T2O S2O HN2O BO
  go_wp2_with fail
  have HC3 := heldEntryS_own T1P.out (by omega) (by omega) (by omega)
  rw [← HM1.out] at HC3
  refine HC3.mono ?_
  clear HC3
  rintro e wQ ⟨rfl, hbQ⟩
  have T2Q : Hid (OwnI _ _ _ _) := owns_below T2P.out hbQ
  have BQ := BP.trans (hbQ.mono BP.size)
  clear hbQ T1P T2P BP
  go_wp2_with fail
  have HC4 := heldIntS_own T2Q.out hm1b (by omega)
  rw [← HM2.out] at HC4
  refine HC4.mono ?_
  clear HC4
  rintro e wR ⟨rfl, hbR⟩
  have BR := BQ.trans (hbR.mono BQ.size)
  clear hbR T2Q BQ
  go_wp2_with fail
  go_ret
  exact ⟨rfl, BR⟩

theorem own : ownKnob Try.prog.godebug = none := by kernel_rfl
theorem laidOut : laidOutB Try.prog = true := by kernel_rfl
theorem cellsN : Try.prog.cellsOf 89 = 3 := by kernel_rfl

set_option maxRecDepth 100000 in
theorem lifted (os : Os) (started : os.Started) (H : Type) (enc : TypeId × Value → H) :
    ReturnsInHanded {} Try.checked os 12 .any (Rows.fnExactTreeRangeSpec.pre6 enc Try.prog Try.f12 Rows.fnExactTreeRangeRow.domain false) (Rows.fnExactTreeRangeSpec.post enc Try.prog Try.f12 false true false false) := by
  refine returnsInHanded_of_change (C := Try.checked) own started (by kernel_rfl) Try.func12
    (ChangeSpec.witness6 (enc := enc) (C := Try.checked) false ⟨#[], #[.agg #[.slice none 0 0, .int .i64 0], .agg #[.string ByteArray.empty, .string ByteArray.empty, .bool false]], []⟩ 8 (by kernel_rfl) (by kernel_rfl) (by kernel_rfl) (by kernel_rfl)) ?_
  intro W base args ds gs before hval0 hW hcnd _
  have hval : ∀ (j : Nat) t v, Try.f12.params[j]? = some t → args[j]? = some v → Value.okWide Try.prog W .any base t v := hval0
  have hW' := hW
  obtain ⟨p, q, hA0, hV, rfl, hfz, hnd⟩ := hW
  have hA : DataW.TrodAll enc Try.prog W 0 (fun _ => true) true Try.f12.params.toList args.toList ds p := hA0
  rw [Try.params12] at hA hval
  obtain ⟨v0, vs0, d0, ds0, p0, q0, hargs, rfl, rfl, h0, r0⟩ := trodAll_cons hA
  obtain ⟨v1, vs1, d1, ds1, p1, q1, rfl, rfl, rfl, h1, r1⟩ := trodAll_cons r0
  obtain ⟨rfl, rfl, rfl⟩ := trodAll_nil r1
  obtain rfl : args = #[v0, v1] := by cases args; simp_all
  obtain ⟨rfl, rfl⟩ := trodVars_none hV
  have k0 := h0
  have lt0 : ∀ x ∈ p0, x.block < W.heap.size := by obtain ⟨m, hm⟩ := k0; exact DataW.trod_lt m _ _ _ hm
  obtain ⟨x0, cap0, f0, nx0, rfl, hl0, hs0, i0⟩ := open_tree (hval 0 81 v0 rfl rfl) h0
  have k1 := h1
  have lt1 : ∀ x ∈ p1, x.block < W.heap.size := by obtain ⟨m, hm⟩ := k1; exact DataW.trod_lt m _ _ _ hm
  obtain ⟨c10, c11, c12, y10, y11, y12, m1, rfl, hd1, hp1, hy10, hy11, hy12⟩ := open_agg3 Try.underlying89 (by kernel_rfl) cellsN (hval 1 89 v1 rfl rfl) h1
  obtain ⟨a1, e10, _, wa1⟩ := DataW.trod_string Try.underlying9 hy10
  obtain ⟨b1, e11, _, wb1⟩ := DataW.trod_string Try.underlying9 hy11
  obtain ⟨s1, e12, _⟩ := DataW.trod_bool Try.underlying4 hy12
  simp at e10 e11 e12
  subst e10 e11 e12
  clear hA0 hval0
  refine (walk x0 cap0 f0 nx0 hl0 hs0 a1 b1 s1 wa1 wb1 W i0).mono fun e W' ⟨he, bel⟩ => ?_
  subst he
  exact ⟨_, rfl, _, _, _, [], _, [], hW', trodAll_mk1 (shut_bool Try.underlying4 _), (trodAll_cons_mk (Below.trod laidOut (by kernel_rfl) (of_decide_eq_true (by kernel_rfl)) k0 bel lt0) (trodAll_cons_mk (Below.trod laidOut (by kernel_rfl) (of_decide_eq_true (by kernel_rfl)) k1 bel lt1) trodAll_mk0)), rfl, bel.frame _, fun h => by cases h⟩
end TreeRangef

theorem fnExactTreeRange_holds : Rows.FnExactTreeRangeSaid :=
  OpenClaim.holds_of_wide 12 Try.f12 rfl rfl rfl rfl rfl rfl rfl ⟨rfl, rfl, rfl, rfl, rfl⟩ rfl rfl rfl rfl rfl (by kernel_rfl) Try.func12 (by kernel_rfl)
    (of_decide_eq_true (by kernel_rfl)) (by unfold Func.isWrapper; first | (rw [if_pos (by decide +kernel)]; kernel_rfl) | (rw [if_neg (by decide +kernel)]; exact ⟨rfl, rfl⟩))
    (fun os started H enc _ => TreeRangef.lifted os started H enc)
#print axioms fnExactTreeRange_holds
end Go.Proofs.Ytklicfcafpehfaa
