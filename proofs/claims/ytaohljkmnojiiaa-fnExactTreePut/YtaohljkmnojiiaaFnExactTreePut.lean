/- At every tree and entry the program's TreePut answers as the specification's: the tree, the number of a page that is new, and a code; it writes into no argument, and its answer owns its memory. -/
import Derived.Test.YtaohljkmnojiiaaPutT
import Derived.Test.YtaohljkmnojiiaaRows
import Derived.ProofKit
import Derived.OpenShut
import Derived.ShutString
import Derived.ChangeOld
import Derived.Below
import Derived.Lib.SmallJoins
namespace Go.Proofs.Ytaohljkmnojiiaa
open Go.ChangeShapes Go.WideShapes Go.ChangeAt Go.RowKit Go.Joins
open Go.ChangeMaps (open_string shut_string)
set_option linter.unusedVariables false
namespace TreePutf
open Tr

set_option maxRecDepth 8000 in
set_option maxHeartbeats 8000000 in
theorem walk (a : Option Addr) (cap : Nat) (f : List Pg) (next : Int) (hl : f.length ≤ maxLen) (hs : ∀ l ∈ f, maxP l) (k : ByteArray) (i : Int) (ht : k.size ≤ maxLen) (w : World) (hin : InP w a f) :
    Calls Try.prog 7 #[.agg #[.slice a f.length cap, .int .i64 next], .agg #[.string k, .int .i64 i]] w fun e w' => e = .returned (.bool true) ∧ Below w.heap.size w w' := by
  have X0 := BoxTE.start w (.slice a f.length cap) next ⟨k, i⟩ 65 66
  have HIN : Hid (InP w a f) := hin
  have HZ : Hid (∀ W : World, InP W a f → Calls _ _ _ W _) := fun W hW => szTree_any a cap f next 1048576 W hW hl hs (by omega) (by omega)
  clear hin hs
  go_enter Try.func7, Try.ntmps7
  go_wp2_with fail
  refine (HZ.out _ (HIN.out.step X0.bel)).mono ?_
  rintro e w1 ⟨⟨r, rfl, hr⟩, hb⟩
  have X1 := X0.step hb
  clear hb HZ X0
  rcases hr with hneg | ⟨hr0, hr1, hr2, hr3⟩
  · have hbw := X1.bel
    go_wp2_with fail
    go_ret
    exact ⟨rfl, hbw⟩
  have hnn : ¬ r < 0 := by omega
  have HSZ : Hid (∀ l ∈ f, szP l) := hr3
  have HSL : Hid (∀ l ∈ f, l.es.length ≤ 1048576) := fun l hl => (hr3 l hl).1
  clear hr3
  have f0 := X1.d0
  have f1 := X1.d1
  go_wp2_with fail
  refine (szEntry_any k i _ _ ht hr0 (by omega)).mono ?_
  rintro e w2 ⟨⟨r2, rfl, hr'⟩, hb⟩
  have X2 := X1.step hb
  clear hb X1 f0 f1
  rcases hr' with hneg2 | ⟨hq0, hq1, h2⟩
  · have hbw := X2.bel
    go_wp2_with fail
    go_ret
    exact ⟨rfl, hbw⟩
  have hnn2 : ¬ r2 < 0 := by omega
  have HS : Hid (∀ (g c : Nat) (W : World), FullP W g f → Calls Try.prog 19 #[.agg #[.slice (some ⟨g, 0, none⟩) f.length c, .int .i64 next], .agg #[.string k, .int .i64 i]] W fun e w' => (∃ v f' n num code, e = .returned (.tuple #[.agg #[v, .int .i64 n], .int .i64 num, .int .i64 code]) ∧ OwnT w' W.heap.size v f' ∧ PutR f next ⟨k, i⟩ f' n num code) ∧ Below W.heap.size W w') := fun g c W hW => specTreePut_full g c f next ⟨k, i⟩ W hW hr2 HSZ.out h2
  have HI : Hid (∀ (g c : Nat) (W : World), FullP W g f → f.length ≤ c → Calls Try.prog 18 #[.agg #[.slice (some ⟨g, 0, none⟩) f.length c, .int .i64 next], .agg #[.string k, .int .i64 i]] W fun e w' => (∃ v f' n num code, e = .returned (.tuple #[.agg #[v, .int .i64 n], .int .i64 num, .int .i64 code]) ∧ OwnT w' W.heap.size v f' ∧ PutR f next ⟨k, i⟩ f' n num code) ∧ Below W.heap.size W w') := fun g c W hW hc => treePut_any g c f next ⟨k, i⟩ W hW hr2 hc HSZ.out h2
  go_wp2_with fail
  go_cut [6, 7, 8] (fun s6 s7 s8 wx => ∃ bs pp5 c5 F nx num code, s6 = .pointer (some ⟨bs, 0, none⟩) ∧ s7 = .int .i64 num ∧ s8 = .int .i64 code ∧ PutR f next ⟨k, i⟩ F nx num code ∧ ∃ lo hi, ResT w2 wx bs pp5 c5 F nx lo hi)
  case first =>
    go_region_held3 (fun w0 => w0.cell? ⟨w.heap.size, 0, none⟩ = some (.slice a f.length cap) ∧ w0.cell? ⟨w.heap.size, 1, none⟩ = some (.int .i64 next) ∧ w0.cell? ⟨w.heap.size + 1, 0, none⟩ = some (.string k) ∧ w0.cell? ⟨w.heap.size + 1, 1, none⟩ = some (.int .i64 i)) ((refine keepM X2 ?_; (repeat (first | (with_reducible exact Below.refl _ _) | (with_reducible assumption) | (with_reducible apply below_drewN) | (with_reducible apply Below.drew) | ((with_reducible refine Below.setCell ?_ ?_ _); rotate_left; focus (first | (simp; done) | (simp; omega) | omega)) | ((with_reducible refine Below.alloc ?_ ?_ _); rotate_left; focus (first | (simp; done) | (simp; omega) | omega)))))) (first | (go_at_call 38; refine (toTree_any a cap f next _ (HIN.out.step (X2.bel.trans ((show Below w2.heap.size w2 _ by (repeat (first | (with_reducible exact Below.refl _ _) | (with_reducible assumption) | (with_reducible apply below_drewN) | (with_reducible apply Below.drew) | ((with_reducible refine Below.setCell ?_ ?_ _); rotate_left; focus (first | (simp; done) | (simp; omega) | omega)) | ((with_reducible refine Below.alloc ?_ ?_ _); rotate_left; focus (first | (simp; done) | (simp; omega) | omega))))).mono X2.bel.size))) hr2 HSL.out).mono ?_; rintro e w3 ⟨⟨g3, rfl, R3⟩, hb⟩; have hB3 : Below w2.heap.size w2 w3 := (show Below w2.heap.size w2 _ by (repeat (first | (with_reducible exact Below.refl _ _) | (with_reducible assumption) | (with_reducible apply below_drewN) | (with_reducible apply Below.drew) | ((with_reducible refine Below.setCell ?_ ?_ _); rotate_left; focus (first | (simp; done) | (simp; omega) | omega)) | ((with_reducible refine Below.alloc ?_ ?_ _); rotate_left; focus (first | (simp; done) | (simp; omega) | omega))))).trans (hb.mono (by simp)); have hzB3 := hB3.size; (try with_reducible have Z3 := z2a (W := w2) hb); (try with_reducible have Z3 := z2d (W := w2) hb); (try with_reducible have Z3 := z2e (W := w2) hb); have HR3 : Hid (OwnT _ _ _ _) := R3; clear R3 hb) | (go_at_call 39; refine (toEntry_any k i _).mono ?_; rintro e w4 ⟨rfl, hb⟩; have hB34 : Below w3.heap.size w3 w4 := (show Below w3.heap.size w3 _ by (repeat (first | (with_reducible exact Below.refl _ _) | (with_reducible assumption) | (with_reducible apply below_drewN) | (with_reducible apply Below.drew) | ((with_reducible refine Below.setCell ?_ ?_ _); rotate_left; focus (first | (simp; done) | (simp; omega) | omega)) | ((with_reducible refine Below.alloc ?_ ?_ _); rotate_left; focus (first | (simp; done) | (simp; omega) | omega))))).trans (hb.mono (by simp)); have hB4 : Below w2.heap.size w2 w4 := hB3.trans (hB34.mono hB3.size); have hzB4 := hB4.size; have hzB34 := hB34.size; (try with_reducible have Z4 := z2a (W := w3) hb); (try with_reducible have Z4 := Z3.next hb); have HR4 : Hid (OwnT _ _ _ _) := HR3.out.next hB34; clear hb hB34) | (go_at_call 19; refine (HS.out _ _ _ (HR4.out.next (by (repeat (first | (with_reducible exact Below.refl _ _) | (with_reducible assumption) | (with_reducible apply below_drewN) | (with_reducible apply Below.drew) | ((with_reducible refine Below.setCell ?_ ?_ _); rotate_left; focus (first | (simp; done) | (simp; omega) | omega)) | ((with_reducible refine Below.alloc ?_ ?_ _); rotate_left; focus (first | (simp; done) | (simp; omega) | omega)))))).full).mono ?_; rintro e w5 ⟨⟨v5, F, nx, num, code, rfl, O5, D5⟩, hb⟩; obtain ⟨pp5, c5, rfl⟩ := O5.shape; have hB45 : Below w4.heap.size w4 w5 := (show Below w4.heap.size w4 _ by (repeat (first | (with_reducible exact Below.refl _ _) | (with_reducible assumption) | (with_reducible apply below_drewN) | (with_reducible apply Below.drew) | ((with_reducible refine Below.setCell ?_ ?_ _); rotate_left; focus (first | (simp; done) | (simp; omega) | omega)) | ((with_reducible refine Below.alloc ?_ ?_ _); rotate_left; focus (first | (simp; done) | (simp; omega) | omega))))).trans (hb.mono (by simp)); have hB5 : Below w2.heap.size w2 w5 := hB4.trans (hB45.mono hB4.size); have hzB5 := hB5.size; have hzB45 := hB45.size; (try with_reducible have Z5 := z2a (W := w4) hb); (try with_reducible have Z5 := Z4.next hb); (try (have qz0 := Z5.c0; have qz1 := Z5.c1; have qz2 := Z5.z0; have qz3 := Z5.z1; have qz4 := Z5.lt)); have HO5 : Hid (OwnT w5 _ (.slice pp5 F.length c5) F) := O5; have HD : Hid (PutR f next ⟨k, i⟩ F nx num code) := D5; clear hb O5 D5 hB45))
    all_goals
      try go_wp2_with fail
      go_meet
      refine ⟨_, pp5, c5, F, nx, num, code, rfl, rfl, rfl, HD.out, ?_⟩
      first
        | (refine ResT.lateE hB5 HO5.out ?_; (first | omega | (simp; done) | (simp; omega)))
        | (have hz4 := Z4.lt; refine ResT.earlyE Z5 hB5 HO5.out ?_ ?_ ?_ <;> (first | omega | (simp; done) | (simp; omega)))
        | (refine ResT.earlyE Z5 hB5 HO5.out ?_ ?_ ?_ <;> (first | omega | (simp; done) | (simp; omega)))
  case rest =>
  obtain ⟨bs, pp5, c5, F, nx, num, code, rfl, rfl, rfl, hD5, lo, hi, X5⟩ := hcut
  have HD : Hid (PutR f next ⟨k, i⟩ F nx num code) := hD5
  have HFS : Hid (∀ l ∈ F, l.es.length ≤ 1048576) := HD.out.small.2
  have hFL : F.length ≤ 1048576 := HD.out.small.1
  have X6 := X2.step X5.bel
  have hz2 := X2.lt
  have HO6 : Hid (OwnH _ _ _ _ _) := X5.own
  have k5 := X6.c0
  have l5 := X6.c1
  have a6 := X5.c0
  have b6 := X5.c1
  have n6 := X5.lt
  have hlo1 := X5.lo_
  have hhi1 := X5.hi_
  have hou1 := X5.out
  have hge1 := X5.ge
  clear X2 X5 hD5
  generalize wc = W6 at X6 HO6 k5 l5 a6 b6 n6 hhi1 ⊢
  go_wp2_with fail
  refine (toTree_any a cap f next _ (HIN.out.step X6.bel) hr2 HSL.out).mono ?_
  rintro e w6 ⟨⟨g6, rfl, R6⟩, hb⟩
  have hbA : Below W6.heap.size W6 (w6.alloc (.cells #[.slice (some ⟨g6, 0, none⟩) f.length f.length, .int .i64 next] 37)) := hb.alloc hb.size _
  have X7 := X6.step hbA
  have HR7 : Hid (OwnH _ _ _ _ _) := R6.ownH.next ((Below.refl _ _).alloc (Nat.le_refl _) (.cells #[.slice (some ⟨g6, 0, none⟩) f.length f.length, .int .i64 next] 37))
  have HO7 : Hid (OwnH _ _ _ _ _) := HO6.out.next hbA
  have a7 := (hbA.cell n6).trans a6
  have b7 := (hbA.cell n6).trans b6
  have n7 : bs < (w6.alloc (.cells #[.slice (some ⟨g6, 0, none⟩) f.length f.length, .int .i64 next] 37)).heap.size := Nat.lt_of_lt_of_le n6 hbA.size
  have x7 : (w6.alloc (.cells #[.slice (some ⟨g6, 0, none⟩) f.length f.length, .int .i64 next] 37)).cell? ⟨w6.heap.size, 0, none⟩ = some (.slice (some ⟨g6, 0, none⟩) f.length f.length) := by simp [go_sem]
  have y7 : (w6.alloc (.cells #[.slice (some ⟨g6, 0, none⟩) f.length f.length, .int .i64 next] 37)).cell? ⟨w6.heap.size, 1, none⟩ = some (.int .i64 next) := by simp [go_sem]
  have m7 : w6.heap.size < (w6.alloc (.cells #[.slice (some ⟨g6, 0, none⟩) f.length f.length, .int .i64 next] 37)).heap.size := by simp
  have hz56 := hb.size
  clear hb hbA X6 R6 k5 l5 HO6 a6 b6
  go_wp2_with fail
  generalize w6.alloc (.cells #[.slice (some ⟨g6, 0, none⟩) f.length f.length, .int .i64 next] 37) = W7 at X7 HR7 HO7 a7 b7 n7 x7 y7 m7 ⊢
  obtain ⟨bx, hbx⟩ : ∃ bx, bx = w6.heap.size := ⟨_, rfl⟩
  rw [← hbx] at HR7 x7 y7 m7 hz56 ⊢
  obtain ⟨l6, hl6⟩ : ∃ l6, l6 = W6.heap.size := ⟨_, rfl⟩
  rw [← hl6] at HR7 n6 hz56 hhi1
  clear hbx hl6
  go_cut [10, 11, 12] (fun s10 s11 s12 wx => ∃ bt pp9 c9, s10 = .pointer (some ⟨bt, 0, none⟩) ∧ s11 = .int .i64 num ∧ s12 = .int .i64 code ∧ ∃ lo9 hi9, ResT W7 wx bt pp9 c9 F nx lo9 hi9)
  case first =>
    go_region_held3 (fun w0 => w0.cell? ⟨w.heap.size, 0, none⟩ = some (.slice a f.length cap) ∧ w0.cell? ⟨w.heap.size, 1, none⟩ = some (.int .i64 next) ∧ w0.cell? ⟨w.heap.size + 1, 0, none⟩ = some (.string k) ∧ w0.cell? ⟨w.heap.size + 1, 1, none⟩ = some (.int .i64 i) ∧ w0.cell? ⟨bx, 0, none⟩ = some (.slice (some ⟨g6, 0, none⟩) f.length f.length) ∧ w0.cell? ⟨bx, 1, none⟩ = some (.int .i64 next)) ((refine keepN X7 m7 x7 y7 ?_; (repeat (first | (with_reducible exact Below.refl _ _) | (with_reducible assumption) | (with_reducible apply below_drewN) | (with_reducible apply Below.drew) | ((with_reducible refine Below.setCell ?_ ?_ _); rotate_left; focus (first | (simp; done) | (simp; omega) | omega)) | ((with_reducible refine Below.alloc ?_ ?_ _); rotate_left; focus (first | (simp; done) | (simp; omega) | omega)))))) (first | (go_at_call 39; refine (toEntry_any k i _).mono ?_; rintro e w8 ⟨rfl, hb⟩; have hB8 : Below W7.heap.size W7 w8 := (show Below W7.heap.size W7 _ by (repeat (first | (with_reducible exact Below.refl _ _) | (with_reducible assumption) | (with_reducible apply below_drewN) | (with_reducible apply Below.drew) | ((with_reducible refine Below.setCell ?_ ?_ _); rotate_left; focus (first | (simp; done) | (simp; omega) | omega)) | ((with_reducible refine Below.alloc ?_ ?_ _); rotate_left; focus (first | (simp; done) | (simp; omega) | omega))))).trans (hb.mono (by simp)); have hzB8 := hB8.size; (try with_reducible have Z8 := z2a (W := W7) hb); (try with_reducible have Z8 := z2d (W := W7) hb); (try with_reducible have Z8 := z2e (W := W7) hb); have HR8 : Hid (OwnH _ _ _ _ _) := HR7.out.next hB8; clear hb) | (go_at_call 18; refine (HI.out _ _ _ (HR8.out.ownT.next (by (repeat (first | (with_reducible exact Below.refl _ _) | (with_reducible assumption) | (with_reducible apply below_drewN) | (with_reducible apply Below.drew) | ((with_reducible refine Below.setCell ?_ ?_ _); rotate_left; focus (first | (simp; done) | (simp; omega) | omega)) | ((with_reducible refine Below.alloc ?_ ?_ _); rotate_left; focus (first | (simp; done) | (simp; omega) | omega)))))).full (Nat.le_refl _)).mono ?_; rintro e w9 ⟨⟨v9, F9, nx9, num9, code9, rfl, O9, D9⟩, hb⟩; obtain ⟨rfl, rfl, rfl, rfl⟩ := HD.out.uniq D9; obtain ⟨pp9, c9, rfl⟩ := O9.shape; have hB89 : Below w8.heap.size w8 w9 := (show Below w8.heap.size w8 _ by (repeat (first | (with_reducible exact Below.refl _ _) | (with_reducible assumption) | (with_reducible apply below_drewN) | (with_reducible apply Below.drew) | ((with_reducible refine Below.setCell ?_ ?_ _); rotate_left; focus (first | (simp; done) | (simp; omega) | omega)) | ((with_reducible refine Below.alloc ?_ ?_ _); rotate_left; focus (first | (simp; done) | (simp; omega) | omega))))).trans (hb.mono (by simp)); have hB9 : Below W7.heap.size W7 w9 := hB8.trans (hB89.mono hB8.size); have hzB9 := hB9.size; have hzB89 := hB89.size; (try with_reducible have Z9 := z2a (W := w8) hb); (try with_reducible have Z9 := Z8.next hb); (try (have qz0 := Z9.c0; have qz1 := Z9.c1; have qz2 := Z9.z0; have qz3 := Z9.z1; have qz4 := Z9.lt)); have HO9 : Hid (OwnT w9 _ (.slice pp9 F.length c9) F) := O9; clear hb O9 D9 hB89))
    all_goals
      try go_wp2_with fail
      go_meet
      refine ⟨_, pp9, c9, rfl, rfl, rfl, ?_⟩
      first
        | (refine ResT.lateE hB9 HO9.out ?_; (first | omega | (simp; done) | (simp; omega)))
        | (have hz8 := Z8.lt; refine ResT.earlyE Z9 hB9 HO9.out ?_ ?_ ?_ <;> (first | omega | (simp; done) | (simp; omega)))
        | (refine ResT.earlyE Z9 hB9 HO9.out ?_ ?_ ?_ <;> (first | omega | (simp; done) | (simp; omega)))
  case rest =>
  obtain ⟨bt, pp9, c9, rfl, rfl, rfl, lo9, hi9, X9⟩ := hcut
  have XA := X7.step X9.bel
  have HRA : Hid (OwnH _ _ _ _ _) := HR7.out.next X9.bel
  have HSA : Hid (OwnH _ _ _ _ _) := HO7.out.next X9.bel
  have HTA : Hid (OwnH _ _ _ _ _) := X9.own
  have xA := (X9.bel.cell m7).trans x7
  have yA := (X9.bel.cell m7).trans y7
  have aA := (X9.bel.cell n7).trans a7
  have bA := (X9.bel.cell n7).trans b7
  have tA := X9.c0
  have uA := X9.c1
  have oA := X9.lt
  have mA : bx < wc.heap.size := Nat.lt_of_lt_of_le m7 X9.bel.size
  have nA : bs < wc.heap.size := Nat.lt_of_lt_of_le n7 X9.bel.size
  have hlo2 := X9.lo_
  have h9A := X9.hi_
  have hou2 := X9.out
  have hge2 := X9.ge
  clear X7 HR7 HO7 x7 y7 a7 b7 X9
  generalize wc = WA at XA HRA HSA HTA xA yA aA bA tA uA oA mA nA h9A ⊢
  obtain ⟨l7, hl7⟩ : ∃ l7, l7 = W7.heap.size := ⟨_, rfl⟩
  rw [← hl7] at m7 n7 hlo2 hge2
  clear hl7
  go_wp2_with fail
  refine (eqTree_same _ _ _ _ F nx _ HTA.out.rowQ HSA.out.rowQ hFL HFS.out).mono ?_
  rintro e wB ⟨rfl, hb⟩
  have XX := hb
  have XB := XA.step hb
  have HRB : Hid (OwnH _ _ _ _ _) := HRA.out.next hb
  have HSB : Hid (OwnH _ _ _ _ _) := HSA.out.next hb
  have HTB : Hid (OwnH _ _ _ _ _) := HTA.out.next hb
  have xB := (hb.cell mA).trans xA
  have yB := (hb.cell mA).trans yA
  have aB := (hb.cell nA).trans aA
  have bB := (hb.cell nA).trans bA
  have tB := (hb.cell oA).trans tA
  have uB := (hb.cell oA).trans uA
  have mB : bx < wB.heap.size := Nat.lt_of_lt_of_le mA hb.size
  have h9B : hi9 ≤ wB.heap.size := Nat.le_trans h9A hb.size
  have nB : bs < wB.heap.size := Nat.lt_of_lt_of_le nA hb.size
  have oB : bt < wB.heap.size := Nat.lt_of_lt_of_le oA hb.size
  clear XX hb XA HRA HSA HTA xA yA aA bA tA uA mA nA oA h9A
  go_wp2_with fail
  go_region_held3 (fun w0 => w0.cell? ⟨w.heap.size, 0, none⟩ = some (.slice a f.length cap) ∧ w0.cell? ⟨w.heap.size, 1, none⟩ = some (.int .i64 next) ∧ w0.cell? ⟨w.heap.size + 1, 0, none⟩ = some (.string k) ∧ w0.cell? ⟨w.heap.size + 1, 1, none⟩ = some (.int .i64 i) ∧ w0.cell? ⟨bx, 0, none⟩ = some (.slice (some ⟨g6, 0, none⟩) f.length f.length) ∧ w0.cell? ⟨bx, 1, none⟩ = some (.int .i64 next)) ((refine keepN XB mB xB yB ?_; (repeat (first | (with_reducible exact Below.refl _ _) | (with_reducible assumption) | (with_reducible apply below_drewN) | (with_reducible apply Below.drew) | ((with_reducible refine Below.setCell ?_ ?_ _); rotate_left; focus (first | (simp; done) | (simp; omega) | omega)) | ((with_reducible refine Below.alloc ?_ ?_ _); rotate_left; focus (first | (simp; done) | (simp; omega) | omega)))))) (first | (go_at_call 38; refine (toTree_any a cap f next _ (HIN.out.step (XB.bel.trans ((show Below wB.heap.size wB _ by (repeat (first | (with_reducible exact Below.refl _ _) | (with_reducible assumption) | (with_reducible apply below_drewN) | (with_reducible apply Below.drew) | ((with_reducible refine Below.setCell ?_ ?_ _); rotate_left; focus (first | (simp; done) | (simp; omega) | omega)) | ((with_reducible refine Below.alloc ?_ ?_ _); rotate_left; focus (first | (simp; done) | (simp; omega) | omega))))).mono XB.bel.size))) hr2 HSL.out).mono ?_; rintro e wC ⟨⟨gC, rfl, RC⟩, hb⟩; have hBC : Below wB.heap.size wB wC := (show Below wB.heap.size wB _ by (repeat (first | (with_reducible exact Below.refl _ _) | (with_reducible assumption) | (with_reducible apply below_drewN) | (with_reducible apply Below.drew) | ((with_reducible refine Below.setCell ?_ ?_ _); rotate_left; focus (first | (simp; done) | (simp; omega) | omega)) | ((with_reducible refine Below.alloc ?_ ?_ _); rotate_left; focus (first | (simp; done) | (simp; omega) | omega))))).trans (hb.mono (by simp)); have HRC : Hid (OwnT _ _ _ _) := RC; clear RC hb) | (go_at_call 40; refine (eqTree_same _ _ _ _ f next _ (HRB.out.next hBC).ownT.rowP HRC.out.rowP hr2 HSL.out).mono ?_; rintro e wD ⟨rfl, hb0⟩; have hb : Below wB.heap.size wB wD := hBC.trans (hb0.mono hBC.size); clear hb0))
  clear HRC hBC
  have XX := hb
  have XD := XB.step hb
  have HRD : Hid (OwnH _ _ _ _ _) := HRB.out.next hb
  have HSD : Hid (OwnH _ _ _ _ _) := HSB.out.next hb
  have HTD : Hid (OwnH _ _ _ _ _) := HTB.out.next hb
  have xD := (hb.cell mB).trans xB
  have yD := (hb.cell mB).trans yB
  have aD := (hb.cell nB).trans aB
  have bD := (hb.cell nB).trans bB
  have tD := (hb.cell oB).trans tB
  have uD := (hb.cell oB).trans uB
  have mD : bx < wD.heap.size := Nat.lt_of_lt_of_le mB hb.size
  have h9D : hi9 ≤ wD.heap.size := Nat.le_trans h9B hb.size
  have nD : bs < wD.heap.size := Nat.lt_of_lt_of_le nB hb.size
  have oD : bt < wD.heap.size := Nat.lt_of_lt_of_le oB hb.size
  clear XX hb XB HRB HSB HTB xB yB aB bB tB uB mB nB oB h9B
  go_wp2_with fail
  refine (markTree_any l6 bx (.slice (some ⟨g6, 0, none⟩) f.length f.length) f next wD HRD.out (by omega) hr2 HSL.out).mono ?_
  rintro e wE ⟨rfl, _, hc⟩
  have hk1 := endP_ge 1 f
  obtain ⟨K, hK⟩ : ∃ K, K = endP 1 f := ⟨_, rfl⟩
  rw [← hK] at hk1 ⊢
  have hkn : ¬ ((K : Int) < 0) := by omega
  have XE := XD.step' (hc.below (B := l6) (Nat.le_refl _) (by omega)) (by omega)
  have HSE : Hid (OwnH _ _ _ _ _) := HSD.out.chg hc (.inl (by omega))
  have HTE : Hid (OwnH _ _ _ _ _) := HTD.out.chg hc (.inr (by omega))
  have aE := (hc.cell nD (.inl (by omega))).trans aD
  have bE := (hc.cell nD (.inl (by omega))).trans bD
  have tE := (hc.cell oD (.inr (by omega))).trans tD
  have uE := (hc.cell oD (.inr (by omega))).trans uD
  have nE : bs < wE.heap.size := Nat.lt_of_lt_of_le nD hc.size
  have oE : bt < wE.heap.size := Nat.lt_of_lt_of_le oD hc.size
  have h9E := Nat.le_trans h9D hc.size
  clear hc hK XD HSD HTD HRD aD bD tD uD nD oD xD yD mD
  go_wp2_with fail
  refine (eqTree_same _ _ _ _ F nx _ HTE.out.rowQ HSE.out.rowQ hFL HFS.out).mono ?_
  rintro e wF ⟨rfl, hb⟩
  have XF := XE.step hb
  have HSF : Hid (OwnH _ _ _ _ _) := HSE.out.next hb
  have HTF : Hid (OwnH _ _ _ _ _) := HTE.out.next hb
  have aF := (hb.cell nE).trans aE
  have bF := (hb.cell nE).trans bE
  have tF := (hb.cell oE).trans tE
  have uF := (hb.cell oE).trans uE
  have nF : bs < wF.heap.size := Nat.lt_of_lt_of_le nE hb.size
  have oF : bt < wF.heap.size := Nat.lt_of_lt_of_le oE hb.size
  have h9F : hi9 ≤ wF.heap.size := Nat.le_trans h9E hb.size
  clear hb XE HSE HTE aE bE tE uE nE oE h9E
  go_wp2_with fail
  refine (markTree_any lo9 hi9 (.slice pp9 F.length c9) F nx wF HTF.out (by omega) hFL HFS.out).mono ?_
  rintro e wG ⟨rfl, HM0, hc⟩
  have HTG : Hid (OwnH wG lo9 hi9 (.slice pp9 F.length c9) (marksP 1 F)) := HM0
  have hk2 := endP_ge 1 F
  obtain ⟨K2, hK2⟩ : ∃ K2, K2 = endP 1 F := ⟨_, rfl⟩
  have HK2 : Hid (K2 = endP 1 F) := hK2
  rw [← hK2] at hk2 ⊢
  have XG := XF.step' (hc.below (B := l7) hlo2 (by omega)) (by omega)
  have HSG : Hid (OwnH _ _ _ _ _) := HSF.out.chg hc (.inl (by omega))
  have aG := (hc.cell nF (.inl (by omega))).trans aF
  have bG := (hc.cell nF (.inl (by omega))).trans bF
  have tG := (hc.cell oF hou2).trans tF
  have uG := (hc.cell oF hou2).trans uF
  have nG : bs < wG.heap.size := Nat.lt_of_lt_of_le nF hc.size
  have oG : bt < wG.heap.size := Nat.lt_of_lt_of_le oF hc.size
  have h9G := Nat.le_trans h9F hc.size
  clear hc hK2 XF HSF HTF aF bF tF uF nF oF HM0
  go_wp2_with fail
  have HC1 := heldTree_any pp9 c9 F nx wG HTG.out.rowQm hFL HFS.out
  rw [← HK2.out] at HC1
  refine HC1.mono ?_
  clear HC1
  rintro e wH ⟨rfl, hb⟩
  have hkn2 : ¬ ((K2 : Int) < 0) := by omega
  have XH := XG.step hb
  have HSH : Hid (OwnH _ _ _ _ _) := HSG.out.next hb
  have HTH : Hid (OwnH _ _ _ _ _) := HTG.out.next hb
  have aH := (hb.cell nG).trans aG
  have bH := (hb.cell nG).trans bG
  have tH := (hb.cell oG).trans tG
  have uH := (hb.cell oG).trans uG
  have nH : bs < wH.heap.size := Nat.lt_of_lt_of_le nG hb.size
  have oH : bt < wH.heap.size := Nat.lt_of_lt_of_le oG hb.size
  have h9H : hi9 ≤ wH.heap.size := Nat.le_trans h9G hb.size
  clear hb XG HSG HTG aG bG tG uG nG oG h9G
  go_wp2_with fail
  go_cut [16, 17, 18] (fun s16 s17 s18 wx => ∃ bk ppK cK, s16 = .pointer (some ⟨bk, 0, none⟩) ∧ s17 = .int .i64 num ∧ s18 = .int .i64 code ∧ ∃ loK hiK, ResT wH wx bk ppK cK F nx loK hiK)
  case first =>
    go_region_held3 (fun w0 => w0.cell? ⟨w.heap.size, 0, none⟩ = some (.slice a f.length cap) ∧ w0.cell? ⟨w.heap.size, 1, none⟩ = some (.int .i64 next) ∧ w0.cell? ⟨w.heap.size + 1, 0, none⟩ = some (.string k) ∧ w0.cell? ⟨w.heap.size + 1, 1, none⟩ = some (.int .i64 i)) ((refine keepM XH ?_; (repeat (first | (with_reducible exact Below.refl _ _) | (with_reducible assumption) | (with_reducible apply below_drewN) | (with_reducible apply Below.drew) | ((with_reducible refine Below.setCell ?_ ?_ _); rotate_left; focus (first | (simp; done) | (simp; omega) | omega)) | ((with_reducible refine Below.alloc ?_ ?_ _); rotate_left; focus (first | (simp; done) | (simp; omega) | omega)))))) (first | (go_at_call 38; refine (toTree_any a cap f next _ (HIN.out.step (XH.bel.trans ((show Below wH.heap.size wH _ by (repeat (first | (with_reducible exact Below.refl _ _) | (with_reducible assumption) | (with_reducible apply below_drewN) | (with_reducible apply Below.drew) | ((with_reducible refine Below.setCell ?_ ?_ _); rotate_left; focus (first | (simp; done) | (simp; omega) | omega)) | ((with_reducible refine Below.alloc ?_ ?_ _); rotate_left; focus (first | (simp; done) | (simp; omega) | omega))))).mono XH.bel.size))) hr2 HSL.out).mono ?_; rintro e wI ⟨⟨gI, rfl, RI⟩, hb⟩; have hBI : Below wH.heap.size wH wI := (show Below wH.heap.size wH _ by (repeat (first | (with_reducible exact Below.refl _ _) | (with_reducible assumption) | (with_reducible apply below_drewN) | (with_reducible apply Below.drew) | ((with_reducible refine Below.setCell ?_ ?_ _); rotate_left; focus (first | (simp; done) | (simp; omega) | omega)) | ((with_reducible refine Below.alloc ?_ ?_ _); rotate_left; focus (first | (simp; done) | (simp; omega) | omega))))).trans (hb.mono (by simp)); have hzBI := hBI.size; (try with_reducible have ZI := z2a (W := wH) hb); (try with_reducible have ZI := z2d (W := wH) hb); (try with_reducible have ZI := z2e (W := wH) hb); have HRI : Hid (OwnT _ _ _ _) := RI; clear RI hb) | (go_at_call 39; refine (toEntry_any k i _).mono ?_; rintro e wJ ⟨rfl, hb⟩; have hBIJ : Below wI.heap.size wI wJ := (show Below wI.heap.size wI _ by (repeat (first | (with_reducible exact Below.refl _ _) | (with_reducible assumption) | (with_reducible apply below_drewN) | (with_reducible apply Below.drew) | ((with_reducible refine Below.setCell ?_ ?_ _); rotate_left; focus (first | (simp; done) | (simp; omega) | omega)) | ((with_reducible refine Below.alloc ?_ ?_ _); rotate_left; focus (first | (simp; done) | (simp; omega) | omega))))).trans (hb.mono (by simp)); have hBJ : Below wH.heap.size wH wJ := hBI.trans (hBIJ.mono hBI.size); have hzBJ := hBJ.size; have hzBIJ := hBIJ.size; (try with_reducible have ZJ := z2a (W := wI) hb); (try with_reducible have ZJ := ZI.next hb); have HRJ : Hid (OwnT _ _ _ _) := HRI.out.next hBIJ; clear hb hBIJ) | (go_at_call 18; refine (HI.out _ _ _ (HRJ.out.next (by (repeat (first | (with_reducible exact Below.refl _ _) | (with_reducible assumption) | (with_reducible apply below_drewN) | (with_reducible apply Below.drew) | ((with_reducible refine Below.setCell ?_ ?_ _); rotate_left; focus (first | (simp; done) | (simp; omega) | omega)) | ((with_reducible refine Below.alloc ?_ ?_ _); rotate_left; focus (first | (simp; done) | (simp; omega) | omega)))))).full (Nat.le_refl _)).mono ?_; rintro e wK ⟨⟨vK, FK, nxK, numK, codeK, rfl, OK, DK⟩, hb⟩; obtain ⟨rfl, rfl, rfl, rfl⟩ := HD.out.uniq DK; obtain ⟨ppK, cK, rfl⟩ := OK.shape; have hBJK : Below wJ.heap.size wJ wK := (show Below wJ.heap.size wJ _ by (repeat (first | (with_reducible exact Below.refl _ _) | (with_reducible assumption) | (with_reducible apply below_drewN) | (with_reducible apply Below.drew) | ((with_reducible refine Below.setCell ?_ ?_ _); rotate_left; focus (first | (simp; done) | (simp; omega) | omega)) | ((with_reducible refine Below.alloc ?_ ?_ _); rotate_left; focus (first | (simp; done) | (simp; omega) | omega))))).trans (hb.mono (by simp)); have hBK : Below wH.heap.size wH wK := hBJ.trans (hBJK.mono hBJ.size); have hzBK := hBK.size; have hzBJK := hBJK.size; (try with_reducible have ZK := z2a (W := wJ) hb); (try with_reducible have ZK := ZJ.next hb); (try (have qz0 := ZK.c0; have qz1 := ZK.c1; have qz2 := ZK.z0; have qz3 := ZK.z1; have qz4 := ZK.lt)); have HOK : Hid (OwnT wK _ (.slice ppK F.length cK) F) := OK; clear hb OK DK hBJK))
    all_goals
      try go_wp2_with fail
      go_meet
      refine ⟨_, ppK, cK, rfl, rfl, rfl, ?_⟩
      first
        | (refine ResT.lateE hBK HOK.out ?_; (first | omega | (simp; done) | (simp; omega)))
        | (have hzJ := ZJ.lt; refine ResT.earlyE ZK hBK HOK.out ?_ ?_ ?_ <;> (first | omega | (simp; done) | (simp; omega)))
        | (refine ResT.earlyE ZK hBK HOK.out ?_ ?_ ?_ <;> (first | omega | (simp; done) | (simp; omega)))
  case rest =>
  obtain ⟨bk, ppK, cK, rfl, rfl, rfl, loK, hiK, XL0⟩ := hcut
  have hb := XL0.bel
  have HKL : Hid (OwnH _ _ _ _ _) := XL0.own
  have jL := XL0.c0
  have qL := XL0.c1
  clear XL0
  generalize wc = wL at hb HKL jL qL ⊢
  have XL := XH.step hb
  have HSL2 : Hid (OwnH _ _ _ _ _) := HSH.out.next hb
  have HTL : Hid (OwnH _ _ _ _ _) := HTH.out.next hb
  have aL := (hb.cell nH).trans aH
  have bL := (hb.cell nH).trans bH
  have tL := (hb.cell oH).trans tH
  have uL := (hb.cell oH).trans uH
  have nL : bs < wL.heap.size := Nat.lt_of_lt_of_le nH hb.size
  have oL : bt < wL.heap.size := Nat.lt_of_lt_of_le oH hb.size
  have h9L : hi9 ≤ wL.heap.size := Nat.le_trans h9H hb.size
  clear hb XH HSH HTH aH bH tH uH nH oH h9H
  go_wp2_with fail
  refine (eqTree_same _ _ _ _ F nx _ HKL.out.rowQ HSL2.out.rowQ hFL HFS.out).mono ?_
  rintro e wM ⟨rfl, hb⟩
  clear jL qL HKL
  have XM := XL.step hb
  have HSM : Hid (OwnH _ _ _ _ _) := HSL2.out.next hb
  have HTM : Hid (OwnH _ _ _ _ _) := HTL.out.next hb
  have aM := (hb.cell nL).trans aL
  have bM := (hb.cell nL).trans bL
  have tM := (hb.cell oL).trans tL
  have uM := (hb.cell oL).trans uL
  have nM : bs < wM.heap.size := Nat.lt_of_lt_of_le nL hb.size
  have oM : bt < wM.heap.size := Nat.lt_of_lt_of_le oL hb.size
  have h9M : hi9 ≤ wM.heap.size := Nat.le_trans h9L hb.size
  clear hb XL HSL2 HTL aL bL tL uL nL oL h9L
  go_wp2_with fail
  have HC2 := heldTree_any pp9 c9 F nx wM HTM.out.rowQm hFL HFS.out
  rw [← HK2.out] at HC2
  refine HC2.mono ?_
  clear HC2
  rintro e wN ⟨rfl, hb⟩
  have hbw := (XM.step hb).bel
  clear hb
  go_wp2_with fail
  go_ret
  exact ⟨rfl, hbw⟩

theorem own : ownKnob Try.prog.godebug = none := by kernel_rfl
theorem laidOut : laidOutB Try.prog = true := by kernel_rfl

set_option maxRecDepth 100000 in
theorem lifted (os : Os) (started : os.Started) (H : Type) (enc : TypeId × Value → H) :
    ReturnsInHanded {} Try.checked os 7 .any (Rows.fnExactTreePutSpec.pre6 enc Try.prog Try.f7 Rows.fnExactTreePutRow.domain false) (Rows.fnExactTreePutSpec.post enc Try.prog Try.f7 false true false false) := by
  refine returnsInHanded_of_change (C := Try.checked) own started (by kernel_rfl) Try.func7
    (ChangeSpec.witness6 (enc := enc) (C := Try.checked) false ⟨#[], #[.agg #[.slice none 0 0, .int .i64 0], .agg #[.string ByteArray.empty, .int .i64 0]], []⟩ 8 (by kernel_rfl) (by kernel_rfl) (by kernel_rfl) (by kernel_rfl)) ?_
  intro W base args ds gs before hval0 hW hcnd _
  have hval : ∀ (j : Nat) t v, Try.f7.params[j]? = some t → args[j]? = some v → Value.okWide Try.prog W .any base t v := hval0
  have hW' := hW
  obtain ⟨p, q, hA0, hV, rfl, hfz, hnd⟩ := hW
  have hA : DataW.TrodAll enc Try.prog W 0 (fun _ => true) true Try.f7.params.toList args.toList ds p := hA0
  rw [Try.params7] at hA hval
  obtain ⟨v0, vs0, d0, ds0, p0, q0, hargs, rfl, rfl, h0, r0⟩ := trodAll_cons hA
  obtain ⟨v1, vs1, d1, ds1, p1, q1, rfl, rfl, rfl, h1, r1⟩ := trodAll_cons r0
  obtain ⟨rfl, rfl, rfl⟩ := trodAll_nil r1
  obtain rfl : args = #[v0, v1] := by cases args; simp_all
  obtain ⟨rfl, rfl⟩ := trodVars_none hV
  have k0 := h0
  have lt0 : ∀ x ∈ p0, x.block < W.heap.size := by obtain ⟨m, hm⟩ := k0; exact DataW.trod_lt m _ _ _ hm
  obtain ⟨x0, cap0, f0, nx0, rfl, hl0, hs0, i0⟩ := open_tree (hval 0 65 v0 rfl rfl) h0
  have k1 := h1
  have lt1 : ∀ x ∈ p1, x.block < W.heap.size := by obtain ⟨m, hm⟩ := k1; exact DataW.trod_lt m _ _ _ hm
  obtain ⟨kk1, ii1, rfl, wk1⟩ := open_entry (hval 1 66 v1 rfl rfl) h1
  clear hA0 hval0
  refine (walk x0 cap0 f0 nx0 hl0 hs0 kk1 ii1 wk1 W i0).mono fun e W' ⟨he, bel⟩ => ?_
  subst he
  exact ⟨_, rfl, _, _, _, [], _, [], hW', trodAll_mk1 (shut_bool Try.underlying4 _), (trodAll_cons_mk (Below.trod laidOut (by kernel_rfl) (of_decide_eq_true (by kernel_rfl)) k0 bel lt0) (trodAll_cons_mk (Below.trod laidOut (by kernel_rfl) (of_decide_eq_true (by kernel_rfl)) k1 bel lt1) trodAll_mk0)), rfl, bel.frame _, fun h => by cases h⟩
end TreePutf

theorem fnExactTreePut_holds : Rows.FnExactTreePutSaid :=
  OpenClaim.holds_of_wide 7 Try.f7 rfl rfl rfl rfl rfl rfl rfl ⟨rfl, rfl, rfl, rfl, rfl⟩ rfl rfl rfl rfl rfl (by kernel_rfl) Try.func7 (by kernel_rfl)
    (of_decide_eq_true (by kernel_rfl)) (by unfold Func.isWrapper; first | (rw [if_pos (by decide +kernel)]; kernel_rfl) | (rw [if_neg (by decide +kernel)]; exact ⟨rfl, rfl⟩))
    (fun os started H enc _ => TreePutf.lifted os started H enc)
#print axioms fnExactTreePut_holds
end Go.Proofs.Ytaohljkmnojiiaa
