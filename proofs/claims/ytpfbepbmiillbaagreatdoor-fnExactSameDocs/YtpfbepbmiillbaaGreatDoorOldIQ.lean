/- The oldest snapshot of a store: both answers, and the law's own walk. -/
import Derived.Test.YtpfbepbmiillbaaGreatDoorDnsOQ
import Derived.Test.YtpfbepbmiillbaaGreatDoorColKQ
import Derived.Deep.RegionHeld3
import Derived.Test.YtpfbepbmiillbaaGreatDoorRows
import Derived.Test.YtpfbepbmiillbaaGreatDoorTie
import Derived.Test.YtpfbepbmiillbaaGreatDoorCards
import Derived.LaidMore
import Derived.Lay
import Derived.Stop.Joined
import Derived.SevenTiedAt
import Derived.ProofKit
import Derived.OpenShut
import Derived.ShutString
import Derived.ChangeOld
import Derived.Below
import Derived.Lib.SmallJoins
namespace Go.Proofs.YtpfbepbmiillbaaGreatDoor.Tx
open Go.RowKit Tr Co Rea Ce
set_option linter.unusedVariables false

def mn2 (a b : Int) : Int := min a b
def olX (a : Int) (l : List Tn) : Int := l.foldl (fun a t => mn2 a t.sp) a
theorem olX_step (a : Int) (l : List Tn) (k : Nat) (h : k < l.length) : olX a (l.take (k + 1)) = mn2 (olX a (l.take k)) l[k].sp := by
  unfold olX; rw [List.take_succ_eq_append_getElem h, List.foldl_append]; rfl
def oldR (s : Sto) : Int × Int := if stoB s = true then (olX s.clk s.ts, 0) else (0, 1)

set_option maxRecDepth 4000 in
set_option maxHeartbeats 2000000 in
theorem l11Oldest_any (bs gc gt gd cc ct cd : Nat) (s : Sto) (w : World) (hm : MadeSto w bs gc gt gd s) (hz : SzSto s) :
    Calls Tryz.prog 46 #[.agg #[.slice (some ⟨gc, 0, none⟩) s.cs.length cc, .slice (some ⟨gt, 0, none⟩) s.ts.length ct, .slice (some ⟨gd, 0, none⟩) s.ds.length cd, .int .i64 s.clk]] w fun e w' => e = .returned (.int .i64 (olX s.clk s.ts)) ∧ Below w.heap.size w w' := by
  have X0 := BxTn.start w (.slice (some ⟨gc, 0, none⟩) s.cs.length cc) (.slice (some ⟨gt, 0, none⟩) s.ts.length ct) (.slice (some ⟨gd, 0, none⟩) s.ds.length cd) (.int .i64 s.clk) 33
  have HM : Hid (MadeSto _ _ _ _ _ _) := hm.next X0.bel
  have hl := hz.t0
  clear hm hz
  obtain ⟨hb0, xl, k0, k1, k2, k3⟩ := id X0
  go_enter Tryz.func46, Tryz.ntmps46
  go_wp2_with fail
  generalize w.alloc (.cells #[.slice (some ⟨gc, 0, none⟩) s.cs.length cc, .slice (some ⟨gt, 0, none⟩) s.ts.length ct, .slice (some ⟨gd, 0, none⟩) s.ds.length cd, .int .i64 s.clk] 33) = W0 at X0 HM hb0 xl k0 k1 k2 k3 ⊢
  clear k0 k1 k2 k3 xl
  go_loopw [4, 3] (fun i o wr => ∃ k : Nat, k ≤ s.ts.length ∧ i = .int .i64 k ∧ o = .int .i64 (olX s.clk (s.ts.take k)) ∧ Below W0.heap.size W0 wr) (fun i _ _ => s.ts.length - (intOf i).toNat)
  case atStart => exact ⟨0, Nat.zero_le _, rfl, rfl, Below.refl _ _⟩
  case round =>
    obtain ⟨k, hk, rfl, rfl, hbl⟩ := hrel
    obtain ⟨_, xl, k0, k1, k2, k3⟩ := X0.step hbl
    by_cases hlt : k < s.ts.length
    · have hlt2 : (k : Int) < (s.ts.length : Int) := by omega
      have R1 := HM.out.t.next hbl
      obtain ⟨gr, gw, ⟨x0, x1, x2, x3⟩, _, _, _⟩ := R1.cells k hlt
      have hg1 := R1.lt
      have hst := olX_step s.clk s.ts k hlt
      obtain ⟨x, hx⟩ : ∃ x, x = s.ts[k] := ⟨_, rfl⟩
      rw [← hx] at x0 x1 x2 x3 hst
      have HST : Hid (_ = _) := hst
      clear R1 hx hst
      go_wp2_with fail
      go_roundw
      case rel => exact ⟨k + 1, by omega, by go_num, by rw [HST.out]; rfl, hbl⟩
      case measure => simp [intOf]; omega
    · have hlt2 : ¬ (k : Int) < (s.ts.length : Int) := by omega
      have hal : olX s.clk (s.ts.take k) = olX s.clk s.ts := by rw [List.take_of_length_le (by omega)]
      rw [hal]
      have hbw := hb0.trans (hbl.mono hb0.size)
      clear hal
      go_wp2_with fail
      go_ret
      exact ⟨rfl, hbw⟩

set_option maxRecDepth 4000 in
set_option maxHeartbeats 2000000 in
theorem oldestM_any (b bs gc gt gd cc ct cd : Nat) (s : Sto) (w : World) (hm : MadeSto w bs gc gt gd s) (hz : SzSto s) (hl0 : b < w.heap.size) (c1 : w.cell? ⟨b, 1, none⟩ = some (.slice (some ⟨gt, 0, none⟩) s.ts.length ct)) (c3 : w.cell? ⟨b, 3, none⟩ = some (.int .i64 s.clk)) :
    Calls Tryz.prog 47 #[.pointer (some ⟨b, 0, none⟩)] w fun e w' => e = .returned (.int .i64 (olX s.clk s.ts)) ∧ Below w.heap.size w w' := by
  have HM : Hid (MadeSto _ _ _ _ _ _) := hm
  have hl := hz.t0
  clear hm hz
  have hb0 : Below w.heap.size w w := Below.refl _ _
  go_enter Tryz.func47, Tryz.ntmps47
  go_wp2_with fail
  clear c1 c3 hl0
  go_loopw [15, 3] (fun i o wr => ∃ k : Nat, k ≤ s.ts.length ∧ i = .int .i64 k ∧ o = .int .i64 (olX s.clk (s.ts.take k)) ∧ Below w.heap.size w wr) (fun i _ _ => s.ts.length - (intOf i).toNat)
  case atStart => exact ⟨0, Nat.zero_le _, rfl, rfl, Below.refl _ _⟩
  case round =>
    obtain ⟨k, hk, rfl, rfl, hbl⟩ := hrel
    by_cases hlt : k < s.ts.length
    · have hlt2 : (k : Int) < (s.ts.length : Int) := by omega
      have R1 := HM.out.t.next hbl
      obtain ⟨gr, gw, ⟨x0, x1, x2, x3⟩, _, _, _⟩ := R1.cells k hlt
      have hg1 := R1.lt
      have hst := olX_step s.clk s.ts k hlt
      obtain ⟨x, hx⟩ : ∃ x, x = s.ts[k] := ⟨_, rfl⟩
      rw [← hx] at x0 x1 x2 x3 hst
      have HST : Hid (_ = _) := hst
      clear R1 hx hst
      have hbA : Below wr.heap.size wr (wr.alloc (.cells #[.int .i64 x.sn, .int .i64 x.sp, .slice (some ⟨gr, 0, none⟩) x.rs.length x.rs.length, .slice (some ⟨gw, 0, none⟩) x.cs.length x.cs.length] 75)) := (Below.refl _ _).alloc (Nat.le_refl _) _
      have hbB := hbl.trans (hbA.mono hbl.size)
      clear hbA
      go_wp2_with fail
      go_roundw
      case rel => exact ⟨k + 1, by omega, by go_num, by rw [HST.out]; rfl, hbB⟩
      case measure => simp [intOf]; omega
    · have hlt2 : ¬ (k : Int) < (s.ts.length : Int) := by omega
      have hal : olX s.clk (s.ts.take k) = olX s.clk s.ts := by rw [List.take_of_length_le (by omega)]
      rw [hal]
      have hbw := hb0.trans (hbl.mono hb0.size)
      clear hal
      go_wp2_with fail
      go_ret
      exact ⟨rfl, hbw⟩

set_option maxRecDepth 4000 in
set_option maxHeartbeats 2000000 in
theorem specOldest_any (bs gc gt gd cc ct cd : Nat) (s : Sto) (w : World) (hm : MadeSto w bs gc gt gd s) (hz : SzSto s) :
    Calls Tryz.prog 13 #[.agg #[.slice (some ⟨gc, 0, none⟩) s.cs.length cc, .slice (some ⟨gt, 0, none⟩) s.ts.length ct, .slice (some ⟨gd, 0, none⟩) s.ds.length cd, .int .i64 s.clk]] w fun e w' => e = .returned (.tuple #[.int .i64 (oldR s).1, .int .i64 (oldR s).2]) ∧ Below w.heap.size w w' := by
  have X0 := BxTn.start w (.slice (some ⟨gc, 0, none⟩) s.cs.length cc) (.slice (some ⟨gt, 0, none⟩) s.ts.length ct) (.slice (some ⟨gd, 0, none⟩) s.ds.length cd) (.int .i64 s.clk) 33
  have HS : Hid (Calls _ _ _ _ _) := specStoB_any bs gc gt gd cc ct cd s _ (hm.next X0.bel) hz
  have HO : Hid (∀ W : World, Below w.heap.size w W → Calls _ _ _ W _) := fun W hW => l11Oldest_any bs gc gt gd cc ct cd s W (hm.next hW) hz
  clear hm hz
  obtain ⟨B, hB⟩ : ∃ B, B = stoB s := ⟨_, rfl⟩
  have HR : Hid (oldR s = if B = true then (olX s.clk s.ts, 0) else (0, 1)) := by rw [hB]; exact rfl
  rw [← hB] at HS
  clear hB
  obtain ⟨O, hO⟩ : ∃ O, O = olX s.clk s.ts := ⟨_, rfl⟩
  rw [← hO] at HO HR
  clear hO
  obtain ⟨P, hP⟩ : ∃ P, P = oldR s := ⟨_, rfl⟩
  rw [← hP] at HR ⊢
  clear hP
  go_enter Tryz.func13, Tryz.ntmps13
  obtain ⟨_, xl, k0, k1, k2, k3⟩ := id X0
  go_wp2_with fail
  refine HS.out.mono ?_
  rintro e w1 ⟨rfl, hb⟩
  have X1 := X0.step hb
  clear hb X0 HS xl k0 k1 k2 k3
  obtain ⟨_, xl, k0, k1, k2, k3⟩ := id X1
  cases B
  · have HF : Hid (P = (0, 1)) := HR.out
    clear HR
    have hbw := X1.bel
    go_wp2_with fail
    go_ret2
    exact ⟨by rw [HF.out]; rfl, hbw⟩
  · have HF : Hid (P = (O, 0)) := HR.out
    clear HR
    go_wp2_with fail
    refine (HO.out _ X1.bel).mono ?_
    rintro e w2 ⟨rfl, hb⟩
    have hbw := (X1.step hb).bel
    clear hb
    go_wp2_with fail
    go_ret2
    exact ⟨by rw [HF.out]; rfl, hbw⟩

set_option maxRecDepth 4000 in
set_option maxHeartbeats 2000000 in
theorem implOldest_any (bs gc gt gd cc ct cd : Nat) (s : Sto) (w : World) (hm : MadeSto w bs gc gt gd s) (hz : SzSto s) :
    Calls Tryz.prog 14 #[.agg #[.slice (some ⟨gc, 0, none⟩) s.cs.length cc, .slice (some ⟨gt, 0, none⟩) s.ts.length ct, .slice (some ⟨gd, 0, none⟩) s.ds.length cd, .int .i64 s.clk]] w fun e w' => e = .returned (.tuple #[.int .i64 (oldR s).1, .int .i64 (oldR s).2]) ∧ Below w.heap.size w w' := by
  have X0 := BxTn.start w (.slice (some ⟨gc, 0, none⟩) s.cs.length cc) (.slice (some ⟨gt, 0, none⟩) s.ts.length ct) (.slice (some ⟨gd, 0, none⟩) s.ds.length cd) (.int .i64 s.clk) 33
  have HS : Hid (Calls _ _ _ _ _) := storeOK_any bs gc gt gd cc ct cd s _ (hm.next X0.bel) hz
  have HO : Hid (∀ W : World, BxTn w W (.slice (some ⟨gc, 0, none⟩) s.cs.length cc) (.slice (some ⟨gt, 0, none⟩) s.ts.length ct) (.slice (some ⟨gd, 0, none⟩) s.ds.length cd) (.int .i64 s.clk) → Calls _ _ _ W _) := fun W hW => oldestM_any w.heap.size bs gc gt gd cc ct cd s W (hm.next hW.bel) hz hW.lt hW.c1 hW.c3
  clear hm hz
  obtain ⟨B, hB⟩ : ∃ B, B = stoB s := ⟨_, rfl⟩
  have HR : Hid (oldR s = if B = true then (olX s.clk s.ts, 0) else (0, 1)) := by rw [hB]; exact rfl
  rw [← hB] at HS
  clear hB
  obtain ⟨O, hO⟩ : ∃ O, O = olX s.clk s.ts := ⟨_, rfl⟩
  rw [← hO] at HO HR
  clear hO
  obtain ⟨P, hP⟩ : ∃ P, P = oldR s := ⟨_, rfl⟩
  rw [← hP] at HR ⊢
  clear hP
  go_enter Tryz.func14, Tryz.ntmps14
  obtain ⟨_, xl, k0, k1, k2, k3⟩ := id X0
  go_wp2_with fail
  refine HS.out.mono ?_
  rintro e w1 ⟨rfl, hb⟩
  have X1 := X0.step hb
  clear hb X0 HS xl k0 k1 k2 k3
  cases B
  · have HF : Hid (P = (0, 1)) := HR.out
    clear HR
    have hbw := X1.bel
    go_wp2_with fail
    go_ret2
    exact ⟨by rw [HF.out]; rfl, hbw⟩
  · have HF : Hid (P = (O, 0)) := HR.out
    clear HR
    go_wp2_with fail
    refine (HO.out _ X1).mono ?_
    rintro e w2 ⟨rfl, hb⟩
    have hbw := (X1.step hb).bel
    clear hb
    go_wp2_with fail
    go_ret2
    exact ⟨by rw [HF.out]; rfl, hbw⟩

end Go.Proofs.YtpfbepbmiillbaaGreatDoor.Tx
namespace Go.Proofs.YtpfbepbmiillbaaGreatDoor.OldSnapf
open Go.RowKit Tr Co Rea Ce Tx
set_option linter.unusedVariables false

set_option maxRecDepth 8000 in
set_option maxHeartbeats 4000000 in
theorem walk (p1 p2 p3 : Option Addr) (c1 c2 c3 : Nat) (s : Sto) (hm : MaxSto s) (w : World) (hin : InSto w p1 p2 p3 s) :
    Calls Tryz.prog 4 #[.agg #[.slice p1 s.cs.length c1, .slice p2 s.ts.length c2, .slice p3 s.ds.length c3, .int .i64 s.clk]] w fun e w' => e = .returned (.bool true) ∧ Below w.heap.size w w' := by
  have X0 := BxTn.start w (.slice p1 s.cs.length c1) (.slice p2 s.ts.length c2) (.slice p3 s.ds.length c3) (.int .i64 s.clk) 26
  have HZ : Hid (∀ W : World, Below w.heap.size w W → Calls _ _ _ W _) := fun W hW => szStore_any p1 p2 p3 c1 c2 c3 s 1048576 W (hin.step hW) hm (by omega) (by omega)
  clear hm
  go_enter Tryz.func4, Tryz.ntmps4
  go_wp2_with fail
  refine (HZ.out _ X0.bel).mono ?_
  rintro e w1 ⟨⟨r, rfl, hr⟩, hb⟩
  have X1 := X0.step hb
  clear hb HZ X0
  rcases hr with hneg | ⟨hr0, hr1, hsz⟩
  · have hbw := X1.bel
    go_wp2_with fail
    go_ret
    exact ⟨rfl, hbw⟩
  have hnn : ¬ r < 0 := by omega
  have HSZ : Hid (SzSto s) := hsz
  have HTO : Hid (∀ W : World, Below w.heap.size w W → Calls _ _ _ W _) := fun W hW => toStore_any p1 p2 p3 c1 c2 c3 s W (hin.step hW) hsz
  have HS : Hid (∀ (ga gb gd b : Nat) (W : World), MadeSto W b ga gb gd s → Calls _ _ _ W _) := fun ga gb gd b W hW => specOldest_any b ga gb gd s.cs.length s.ts.length s.ds.length s W hW hsz
  have HI : Hid (∀ (ga gb gd b : Nat) (W : World), MadeSto W b ga gb gd s → Calls _ _ _ W _) := fun ga gb gd b W hW => implOldest_any b ga gb gd s.cs.length s.ts.length s.ds.length s W hW hsz
  obtain ⟨P1, hP1⟩ : ∃ P, P = (oldR s).1 := ⟨_, rfl⟩
  obtain ⟨P2, hP2⟩ : ∃ P, P = (oldR s).2 := ⟨_, rfl⟩
  rw [← hP1, ← hP2] at HS HI
  clear hP1 hP2
  clear hsz hr1 hin
  obtain ⟨B1, L1, x0, x1, x2, x3⟩ := id X1
  go_wp2_with fail
  refine (HTO.out _ X1.bel).mono ?_
  rintro e w2 ⟨⟨ga2, gb2, gd2, rfl, O2⟩, hb⟩
  have X2 := X1.step hb
  have HO2 : Hid (MadeSto _ _ _ _ _ _) := O2
  clear hb X1 B1 L1 x0 x1 x2 x3 O2
  go_wp2_with fail
  refine (HS.out ga2 gb2 gd2 _ _ HO2.out).mono ?_
  rintro e w3 ⟨rfl, hb⟩
  have X3 := X2.step hb
  clear hb X2 HO2
  obtain ⟨B3, L3, x0, x1, x2, x3⟩ := id X3
  go_wp2_with fail
  refine (HTO.out _ X3.bel).mono ?_
  rintro e w4 ⟨⟨ga, gb, gd, rfl, O4⟩, hb⟩
  have hbA : Below w4.heap.size w4 (w4.alloc (.cells #[.slice (some ⟨ga, 0, none⟩) s.cs.length s.cs.length, .slice (some ⟨gb, 0, none⟩) s.ts.length s.ts.length, .slice (some ⟨gd, 0, none⟩) s.ds.length s.ds.length, .int .i64 s.clk] 33)) := (Below.refl _ _).alloc (Nat.le_refl _) _
  have X5 := (X3.step hb).step hbA
  have HO5 : Hid (MadeSto _ _ _ _ _ _) := O4.next hbA
  have Y5 := BxTn.start w4 (.slice (some ⟨ga, 0, none⟩) s.cs.length s.cs.length) (.slice (some ⟨gb, 0, none⟩) s.ts.length s.ts.length) (.slice (some ⟨gd, 0, none⟩) s.ds.length s.ds.length) (.int .i64 s.clk) 33
  clear hb X3 B3 L3 x0 x1 x2 x3 O4 hbA
  go_wp2_with fail
  generalize w4.alloc (.cells #[.slice (some ⟨ga, 0, none⟩) s.cs.length s.cs.length, .slice (some ⟨gb, 0, none⟩) s.ts.length s.ts.length, .slice (some ⟨gd, 0, none⟩) s.ds.length s.ds.length, .int .i64 s.clk] 33) = W5 at X5 HO5 Y5 ⊢
  refine (HI.out ga gb gd _ _ HO5.out).mono ?_
  rintro e w6 ⟨rfl, hb⟩
  have X6 := X5.step hb
  have HO6 : Hid (MadeSto w6 _ ga gb gd s) := HO5.out.next hb
  obtain ⟨_, m6, y0, y1, y2, y3⟩ := Y5.step hb
  clear hb X5 HO5 Y5
  obtain ⟨bx, hbx⟩ : ∃ bx, bx = w4.heap.size := ⟨_, rfl⟩
  rw [← hbx] at y0 y1 y2 y3 m6 ⊢
  clear hbx
  all_goals
    go_wp2_with fail
    go_region_held3 (fun w0 => w0.cell? ⟨w.heap.size, 0, none⟩ = some (.slice p1 s.cs.length c1) ∧ w0.cell? ⟨w.heap.size, 1, none⟩ = some (.slice p2 s.ts.length c2) ∧ w0.cell? ⟨w.heap.size, 2, none⟩ = some (.slice p3 s.ds.length c3) ∧ w0.cell? ⟨w.heap.size, 3, none⟩ = some (.int .i64 s.clk) ∧ w0.cell? ⟨bx, 0, none⟩ = some (.slice (some ⟨ga, 0, none⟩) s.cs.length s.cs.length) ∧ w0.cell? ⟨bx, 1, none⟩ = some (.slice (some ⟨gb, 0, none⟩) s.ts.length s.ts.length) ∧ w0.cell? ⟨bx, 2, none⟩ = some (.slice (some ⟨gd, 0, none⟩) s.ds.length s.ds.length) ∧ w0.cell? ⟨bx, 3, none⟩ = some (.int .i64 s.clk)) ((refine keepSt X6 m6 y0 y1 y2 y3 ?_; (repeat (first | (with_reducible exact Below.refl _ _) | (with_reducible assumption) | (with_reducible apply below_drewN) | (with_reducible apply Below.drew) | ((with_reducible refine Below.setCell ?_ ?_ _); rotate_left; focus (first | (simp; done) | (simp; omega) | omega)) | ((with_reducible refine Below.alloc ?_ ?_ _); rotate_left; focus (first | (simp; done) | (simp; omega) | omega)))))) (first | (go_at_call 10; refine (HTO.out _ (X6.bel.trans ((show Below w6.heap.size w6 _ by (repeat (first | (with_reducible exact Below.refl _ _) | (with_reducible assumption) | (with_reducible apply below_drewN) | (with_reducible apply Below.drew) | ((with_reducible refine Below.setCell ?_ ?_ _); rotate_left; focus (first | (simp; done) | (simp; omega) | omega)) | ((with_reducible refine Below.alloc ?_ ?_ _); rotate_left; focus (first | (simp; done) | (simp; omega) | omega))))).mono X6.bel.size))).mono ?_; rintro e w7 ⟨⟨ga7, gb7, gd7, rfl, O7⟩, hb⟩; have hB7 : Below w6.heap.size w6 w7 := (show Below w6.heap.size w6 _ by (repeat (first | (with_reducible exact Below.refl _ _) | (with_reducible assumption) | (with_reducible apply below_drewN) | (with_reducible apply Below.drew) | ((with_reducible refine Below.setCell ?_ ?_ _); rotate_left; focus (first | (simp; done) | (simp; omega) | omega)) | ((with_reducible refine Below.alloc ?_ ?_ _); rotate_left; focus (first | (simp; done) | (simp; omega) | omega))))).trans (hb.mono (by simp)); have HO7 : Hid (MadeSto w7 _ ga7 gb7 gd7 s) := O7; clear hb O7) | (go_at_call 12; refine (eqStore_same _ _ _ _ _ _ _ _ s _ (HO6.out.next hB7) HO7.out HSZ.out).mono ?_; rintro e w8 ⟨rfl, hb⟩; have hB8 : Below w6.heap.size w6 w8 := hB7.trans (hb.mono hB7.size); clear hb))
    have hbw := (X6.step hB8).bel
    go_wp2_with fail
    go_ret
    exact ⟨rfl, hbw⟩

end Go.Proofs.YtpfbepbmiillbaaGreatDoor.OldSnapf

/- Whether two stores have the same documents: both sides. -/
namespace Go.Proofs.YtpfbepbmiillbaaGreatDoor.Tx
open Go.RowKit Tr Co Rea Ce
set_option linter.unusedVariables false

def vEq (a b : Val) : Bool := a.k == b.k && (a.n == b.n && a.t.toList == b.t.toList)
def lEq : List Val → List Val → Bool
  | [], [] => true
  | x :: l, y :: m => vEq x y && lEq l m
  | _, _ => false
theorem lEq_step (l m : List Val) (k : Nat) (h1 : k < l.length) (h2 : k < m.length) : lEq (l.drop k) (m.drop k) = (vEq l[k] m[k] && lEq (l.drop (k + 1)) (m.drop (k + 1))) := by
  rw [List.drop_eq_getElem_cons h1, List.drop_eq_getElem_cons h2]; rfl
theorem lEq_end (l m : List Val) (k : Nat) (h1 : l.length ≤ k) (h2 : m.length ≤ k) : lEq (l.drop k) (m.drop k) = true := by
  rw [List.drop_of_length_le h1, List.drop_of_length_le h2]; rfl
theorem vEq_ways (a b : Val) : (vEq a b = true ∧ (a.k == b.k) = true ∧ (a.n == b.n) = true ∧ (a.t.toList == b.t.toList) = true) ∨ (vEq a b = false ∧ ((a.k == b.k) = false ∨ ((a.k == b.k) = true ∧ (a.n == b.n) = false) ∨ ((a.k == b.k) = true ∧ (a.n == b.n) = true ∧ (a.t.toList == b.t.toList) = false))) := by
  unfold vEq
  cases (a.k == b.k) <;> cases (a.n == b.n) <;> cases (a.t.toList == b.t.toList) <;> simp
theorem own_row {w : World} {base : Nat} {v : Value} {L : List Val} (h : w.ownsRow base 68 3 v L.length (flat L)) : ∃ p cap, v = .slice p L.length cap ∧ RowV w p L := by
  rcases h.2 with ⟨e, h0⟩ | ⟨g, cap, cur, e, _⟩
  · exact ⟨none, 0, by rw [e, h0], .inl (List.eq_nil_of_length_eq_zero h0)⟩
  · exact ⟨some ⟨g, 0, none⟩, cap, e, .inr ⟨g, rfl, ReadV.of_own (by rw [← e]; exact h)⟩⟩
theorem seenG_len (V : Chn → Ver) (l : List Chn) : (seenG V l).length ≤ l.length := by
  unfold seenG
  induction l with
  | nil => exact Nat.le_refl _
  | cons x l ih =>
    rw [List.flatMap_cons, List.length_append, List.length_cons]
    have : (if (V x).gone then [] else [(V x).doc] : List Val).length ≤ 1 := by split <;> simp
    omega
theorem seenR_len (c : Col) (k : Int) : (seenR c k).1.length ≤ c.chs.length := by
  cases h : collB c
  · rw [seenR_bad c k h]; exact Nat.zero_le _
  · rw [seenR_ok c k h]; exact seenG_len _ _
theorem seenG_ext (V U : Chn → Ver) (l : List Chn) (h : ∀ x ∈ l, V x = U x) : seenG V l = seenG U l := by
  unfold seenG
  induction l with
  | nil => rfl
  | cons x l ih =>
    rw [List.flatMap_cons, List.flatMap_cons, h x (by simp), ih (fun y hy => h y (by simp [hy]))]
theorem seen_at (c : Col) (k : Int) (h : collB c = true) : seenG (fun x => atS k zG x.vs) c.chs = (seenR c k).1 := by
  rw [seenR_ok c k h]
  refine seenG_ext _ _ _ fun x hx => ?_
  have h1 := h
  unfold collB at h1
  simp only [Bool.and_eq_true] at h1
  have h2 := chsB_mem c.chs (-1) h1.2.2 x hx
  unfold chnB at h2
  simp only [Bool.and_eq_true, decide_eq_true_eq] at h2
  exact atS_trk x.id k x.vs 0 zG h2.2
/-- Do two collections look the same at their times. -/
def colEq (ka kb : Int) (x y : Col) : Bool := (x.name.toList == y.name.toList) && (decide ((seenR x ka).1.length = (seenR y kb).1.length) && lEq (seenR x ka).1 (seenR y kb).1)
def csEq (ka kb : Int) : List Col → List Col → Bool
  | [], [] => true
  | x :: l, y :: m => colEq ka kb x y && csEq ka kb l m
  | _, _ => false
theorem csEq_step (ka kb : Int) (l m : List Col) (k : Nat) (h1 : k < l.length) (h2 : k < m.length) : csEq ka kb (l.drop k) (m.drop k) = (colEq ka kb l[k] m[k] && csEq ka kb (l.drop (k + 1)) (m.drop (k + 1))) := by
  rw [List.drop_eq_getElem_cons h1, List.drop_eq_getElem_cons h2]; rfl
theorem csEq_end (ka kb : Int) (l m : List Col) (k : Nat) (h1 : l.length ≤ k) (h2 : m.length ≤ k) : csEq ka kb (l.drop k) (m.drop k) = true := by
  rw [List.drop_of_length_le h1, List.drop_of_length_le h2]; rfl
def docsB (a b : Sto) : Bool := decide (a.cs.length = b.cs.length) && csEq a.clk b.clk a.cs b.cs
/-- The answer, and a code. -/
def sdR (a b : Sto) : Bool × Int := if (stoB a && stoB b) = true then (docsB a b, 0) else (false, 1)
theorem stoB_cols (s : Sto) (h : stoB s = true) : colsB s.cs = true := by
  unfold stoB at h
  simp only [Bool.and_eq_true] at h
  exact h.2.2.2.1.2

set_option maxRecDepth 4000 in
set_option maxHeartbeats 2000000 in
theorem equalR_any (p q : Option Addr) (c1 c2 : Nat) (l m : List Val) (w : World) (h1 : RowV w p l) (h2 : RowV w q m) (hl : l.length ≤ 1048576) (hm : m.length ≤ 1048576) :
    Calls Tryz.prog 58 #[.slice p l.length c1, .slice q m.length c2] w fun e w' => e = .returned (.bool (decide (l.length = m.length) && lEq l m)) ∧ Below w.heap.size w w' := by
  have H1 : Hid (RowV _ _ _) := h1
  have H2 : Hid (RowV _ _ _) := h2
  clear h1 h2
  by_cases hlen : l.length = m.length
  case neg =>
    have e1 : ¬ (l.length : Int) = (m.length : Int) := by omega
    have e2 : ((l.length : Int) == (m.length : Int)) = false := by rw [beq_eq_false_iff_ne]; exact e1
    rw [decide_eq_false hlen, Bool.false_and]
    go_enter Tryz.func58, Tryz.ntmps58
    go_wp2_with fail
    go_ret
    exact ⟨rfl, Below.refl _ _⟩
  rw [decide_eq_true hlen, Bool.true_and]
  obtain ⟨R, hR⟩ : ∃ R, R = lEq l m := ⟨_, rfl⟩
  rw [← hR]
  have HR : Hid (R = lEq (l.drop 0) (m.drop 0)) := hR
  have HLEN : Hid (l.length = m.length) := hlen
  obtain ⟨n, hn⟩ : ∃ n, n = m.length := ⟨_, rfl⟩
  have HN0 : Hid (n = m.length) := hn
  rw [← hn] at hlen ⊢
  rw [hlen]
  have hnn : n ≤ 1048576 := by omega
  clear hR hn hm hl hlen
  go_enter Tryz.func58, Tryz.ntmps58
  go_wp2_with fail
  go_loopw [13] (fun i wr => ∃ k : Nat, k ≤ n ∧ i = .int .i64 k ∧ R = lEq (l.drop k) (m.drop k) ∧ Below w.heap.size w wr) (fun i _ => n - (intOf i).toNat)
  case atStart => exact ⟨0, Nat.zero_le _, rfl, HR.out, Below.refl _ _⟩
  case round =>
    obtain ⟨k, hk, rfl, hrk, hbel⟩ := hrel
    clear HR
    by_cases hlt : k < n
    · have hlt2 : (k : Int) < (n : Int) := by omega
      have hkl : k < l.length := by have := HLEN.out; have := HN0.out; omega
      have hkm : k < m.length := by have := HN0.out; omega
      rcases H1.out.next hbel with h0 | ⟨g1, rfl, R1⟩
      · subst h0; simp at hkl
      rcases H2.out.next hbel with h0 | ⟨g2, rfl, R2⟩
      · subst h0; simp at hkm
      obtain ⟨x0, x1, x2⟩ := R1.cells k hkl
      obtain ⟨y0, y1, y2⟩ := R2.cells k hkm
      rw [lEq_step l m k hkl hkm] at hrk
      obtain ⟨x, hx⟩ : ∃ x, x = l[k] := ⟨_, rfl⟩
      obtain ⟨y, hy⟩ : ∃ y, y = m[k] := ⟨_, rfl⟩
      rw [← hx] at x0 x1 x2 hrk
      rw [← hy] at y0 y1 y2 hrk
      have HRK : Hid (R = _) := hrk
      clear hx hy hrk R1 R2 hkl hkm
      rcases vEq_ways x y with ⟨hv, q1, q2, q3⟩ | ⟨hv, hq⟩
      · have HN : Hid (R = lEq (l.drop (k + 1)) (m.drop (k + 1))) := by show R = _; rw [HRK.out, hv, Bool.true_and]
        clear HRK hv
        go_wp2_with fail
        go_quiet (fail)
        go_wp2_with fail
        go_roundw
        case rel => exact ⟨k + 1, by omega, by go_num, HN.out, by (repeat (first | (with_reducible exact Below.refl _ _) | (with_reducible assumption) | (with_reducible apply below_drewN) | (with_reducible apply Below.drew) | ((with_reducible refine Below.setCell ?_ ?_ _); rotate_left; focus (first | (simp; done) | (simp; omega) | omega)) | ((with_reducible refine Below.alloc ?_ ?_ _); rotate_left; focus (first | (simp; done) | (simp; omega) | omega))))⟩
        case measure => simp [intOf]; omega
      · have HF : Hid (R = false) := by show R = _; rw [HRK.out, hv]; simp
        clear HRK hv
        rcases hq with q1 | ⟨q1, q2⟩ | ⟨q1, q2, q3⟩
        all_goals
          go_wp2_with fail
          go_quiet (fail)
          go_wp2_with fail
          go_ret
          exact ⟨by rw [HF.out]; rfl, by (repeat (first | (with_reducible exact Below.refl _ _) | (with_reducible assumption) | (with_reducible apply below_drewN) | (with_reducible apply Below.drew) | ((with_reducible refine Below.setCell ?_ ?_ _); rotate_left; focus (first | (simp; done) | (simp; omega) | omega)) | ((with_reducible refine Below.alloc ?_ ?_ _); rotate_left; focus (first | (simp; done) | (simp; omega) | omega))))⟩
    · have hlt2 : ¬ (k : Int) < (n : Int) := by omega
      have hT : R = true := by rw [hrk]; exact lEq_end l m k (by have := HLEN.out; have := HN0.out; omega) (by have := HN0.out; omega)
      have HT : Hid (R = true) := hT
      clear hrk hT
      go_wp2_with fail
      go_ret
      exact ⟨by rw [HT.out]; rfl, hbel⟩

set_option maxRecDepth 8000 in
set_option maxHeartbeats 4000000 in
theorem isSame_any (ka kb : Int) (x y : Col) (g1 g2 k1 k2 ba bb : Nat) (w : World) (hx : RdC w g1 g2 x) (hy : RdC w k1 k2 y) (sx : SzCol x) (sy : SzCol y) (la : ba < w.heap.size) (lb : bb < w.heap.size) (ca : w.cell? ⟨ba, 3, none⟩ = some (.int .i64 ka)) (cb : w.cell? ⟨bb, 3, none⟩ = some (.int .i64 kb)) :
    Calls Tryz.prog 57 #[.agg #[.string x.name, .slice (some ⟨g1, 0, none⟩) x.chs.length x.chs.length, .slice (some ⟨g2, 0, none⟩) x.dfs.length x.dfs.length], .agg #[.string y.name, .slice (some ⟨k1, 0, none⟩) y.chs.length y.chs.length, .slice (some ⟨k2, 0, none⟩) y.dfs.length y.dfs.length], .pointer (some ⟨ba, 0, none⟩), .pointer (some ⟨bb, 0, none⟩)] w fun e w' => e = .returned (.bool (colEq ka kb x y)) ∧ Below w.heap.size w w' := by
  have X0 := (Boxed.start w (.string x.name) (.slice (some ⟨g1, 0, none⟩) x.chs.length x.chs.length) (.slice (some ⟨g2, 0, none⟩) x.dfs.length x.dfs.length) 63).step ((Below.refl _ _).alloc (Nat.le_refl _) (.cells #[.string y.name, .slice (some ⟨k1, 0, none⟩) y.chs.length y.chs.length, .slice (some ⟨k2, 0, none⟩) y.dfs.length y.dfs.length] 63))
  have Y0 := Boxed.start (w.alloc (.cells #[.string x.name, .slice (some ⟨g1, 0, none⟩) x.chs.length x.chs.length, .slice (some ⟨g2, 0, none⟩) x.dfs.length x.dfs.length] 63)) (.string y.name) (.slice (some ⟨k1, 0, none⟩) y.chs.length y.chs.length) (.slice (some ⟨k2, 0, none⟩) y.dfs.length y.dfs.length) 63
  have HSX : Hid (∀ W : World, Below w.heap.size w W → Calls _ _ _ W _) := fun W hW => seenAt_any x ka g1 g2 x.chs.length x.dfs.length W (hx.next hW) sx
  have HSY : Hid (∀ W : World, Below w.heap.size w W → Calls _ _ _ W _) := fun W hW => seenAt_any y kb k1 k2 y.chs.length y.dfs.length W (hy.next hW) sy
  have hbx := seenR_len x ka
  have hby := seenR_len y kb
  have hsx := sx.chl
  have hsy := sy.chl
  obtain ⟨R, hR⟩ : ∃ R, R = colEq ka kb x y := ⟨_, rfl⟩
  rw [← hR]
  unfold colEq at hR
  obtain ⟨SX, hSX⟩ : ∃ S, S = seenR x ka := ⟨_, rfl⟩
  obtain ⟨SY, hSY⟩ : ∃ S, S = seenR y kb := ⟨_, rfl⟩
  rw [← hSX] at HSX hbx hR
  rw [← hSY] at HSY hby hR
  have HR : Hid (R = _) := hR
  have HLX : Hid (SX.1.length ≤ 1048576) := (show SX.1.length ≤ 1048576 by omega)
  have HLY : Hid (SY.1.length ≤ 1048576) := (show SY.1.length ≤ 1048576 by omega)
  clear hR hSX hSY hx hy sx sy hbx hby hsx hsy
  go_enter Tryz.func57, Tryz.ntmps57
  have a3 := (X0.bel.cell la).trans ca
  have b3 := (X0.bel.cell lb).trans cb
  have lb0 := Nat.lt_of_lt_of_le lb X0.bel.size
  go_wp2_with fail
  refine (HSX.out _ X0.bel).mono ?_
  rintro e w1 ⟨⟨v1, rfl, O1⟩, hb⟩
  have X1 := X0.step hb
  have Y1 := Y0.step hb
  have b31 := (hb.cell lb0).trans b3
  obtain ⟨p1, cp1, rfl, RX⟩ := own_row O1
  have HRX : Hid (RowV _ _ _) := RX
  clear hb X0 Y0 O1 RX HSX a3 b3
  obtain ⟨_, yl, y0, y1, y2⟩ := id Y1
  rw [World.size_alloc] at y0 y1 y2
  clear yl
  go_wp2_with fail
  refine (HSY.out _ X1.bel).mono ?_
  rintro e w2 ⟨⟨v2, rfl, O2⟩, hb⟩
  have X2 := X1.step hb
  have Y2 := Y1.step hb
  obtain ⟨p2, cp2, rfl, RY⟩ := own_row O2
  have HC : Hid (Calls _ _ _ _ _) := equalR_any p1 p2 cp1 cp2 SX.1 SY.1 w2 (HRX.out.next hb) RY HLX.out HLY.out
  clear hb X1 Y1 O2 RY HSY HRX y0 y1 y2 b31
  obtain ⟨hbw, xl, x0, x1, x2⟩ := id X2
  obtain ⟨_, yl, y0, y1, y2⟩ := id Y2
  rw [World.size_alloc] at y0 y1 y2
  clear X2 Y2 yl
  cases hn : (x.name.toList == y.name.toList)
  · have HF : Hid (R = false) := by show R = _; rw [HR.out, hn, Bool.false_and]
    clear HR HC
    go_wp2_with fail
    go_ret
    exact ⟨by rw [HF.out]; rfl, hbw⟩
  · obtain ⟨P, hP⟩ : ∃ P, P = (decide (SX.1.length = SY.1.length) && lEq SX.1 SY.1) := ⟨_, rfl⟩
    have HF : Hid (R = P) := by show R = _; rw [HR.out, hn, Bool.true_and, hP]
    rw [← hP] at HC
    clear HR hP
    go_wp2_with fail
    refine HC.out.mono ?_
    rintro e w3 ⟨rfl, hb⟩
    have hbz := hbw.trans (hb.mono hbw.size)
    clear hb HC
    go_wp2_with fail
    go_ret
    exact ⟨by rw [HF.out]; rfl, hbz⟩

set_option maxRecDepth 8000 in
set_option maxHeartbeats 4000000 in
theorem equalC_any (ka kb : Int) (g1 g2 c1 c2 b1 b2 ba bb : Nat) (l m : List Col) (w : World) (h1 : MadeCs w b1 g1 l) (h2 : MadeCs w b2 g2 m) (s1 : ∀ v ∈ l, szCs v) (s2 : ∀ v ∈ m, szCs v) (hl : l.length ≤ 1048576) (hm : m.length ≤ 1048576) (la : ba < w.heap.size) (lb : bb < w.heap.size) (ca : w.cell? ⟨ba, 3, none⟩ = some (.int .i64 ka)) (cb : w.cell? ⟨bb, 3, none⟩ = some (.int .i64 kb)) :
    Calls Tryz.prog 59 #[.slice (some ⟨g1, 0, none⟩) l.length c1, .slice (some ⟨g2, 0, none⟩) m.length c2, .func (.func 57) #[] #[.pointer (some ⟨ba, 0, none⟩), .pointer (some ⟨bb, 0, none⟩)]] w fun e w' => e = .returned (.bool (decide (l.length = m.length) && csEq ka kb l m)) ∧ Below w.heap.size w w' := by
  have H1 : Hid (MadeCs _ _ _ _) := h1
  have H2 : Hid (MadeCs _ _ _ _) := h2
  have S1 : Hid (∀ v ∈ l, szCs v) := s1
  have S2 : Hid (∀ v ∈ m, szCs v) := s2
  clear h1 h2 s1 s2
  by_cases hlen : l.length = m.length
  case neg =>
    have e1 : ¬ (l.length : Int) = (m.length : Int) := by omega
    have e2 : ((l.length : Int) == (m.length : Int)) = false := by rw [beq_eq_false_iff_ne]; exact e1
    rw [decide_eq_false hlen, Bool.false_and]
    go_enter Tryz.func59, Tryz.ntmps59
    go_wp2_with fail
    go_ret
    exact ⟨rfl, Below.refl _ _⟩
  rw [decide_eq_true hlen, Bool.true_and]
  obtain ⟨R, hR⟩ : ∃ R, R = csEq ka kb l m := ⟨_, rfl⟩
  rw [← hR]
  have HR : Hid (R = csEq ka kb (l.drop 0) (m.drop 0)) := hR
  have HLEN : Hid (l.length = m.length) := hlen
  obtain ⟨n, hn⟩ : ∃ n, n = m.length := ⟨_, rfl⟩
  have HN0 : Hid (n = m.length) := hn
  rw [← hn] at hlen ⊢
  rw [hlen]
  have hnn : n ≤ 1048576 := by omega
  clear hR hn hm hl hlen
  go_enter Tryz.func59, Tryz.ntmps59
  go_wp2_with fail
  go_loopw [17] (fun i wr => ∃ k : Nat, k ≤ n ∧ i = .int .i64 k ∧ R = csEq ka kb (l.drop k) (m.drop k) ∧ Below w.heap.size w wr) (fun i _ => n - (intOf i).toNat)
  case atStart => exact ⟨0, Nat.zero_le _, rfl, HR.out, Below.refl _ _⟩
  case round =>
    obtain ⟨k, hk, rfl, hrk, hbel⟩ := hrel
    clear HR
    by_cases hlt : k < n
    · have hlt2 : (k : Int) < (n : Int) := by omega
      have hkl : k < l.length := by have := HLEN.out; have := HN0.out; omega
      have hkm : k < m.length := by have := HN0.out; omega
      have R1 := H1.out.next hbel
      have R2 := H2.out.next hbel
      obtain ⟨ga, gb, ⟨x0, x1, x2⟩, xa, xb, _⟩ := R1.cells k hkl
      obtain ⟨gd, ge, ⟨y0, y1, y2⟩, ya, yb, _⟩ := R2.cells k hkm
      have hg1 := R1.lt
      have hg2 := R2.lt
      have sx := S1.out _ (List.getElem_mem hkl)
      have sy := S2.out _ (List.getElem_mem hkm)
      rw [csEq_step ka kb l m k hkl hkm] at hrk
      obtain ⟨x, hx⟩ : ∃ x, x = l[k] := ⟨_, rfl⟩
      obtain ⟨y, hy⟩ : ∃ y, y = m[k] := ⟨_, rfl⟩
      rw [← hx] at x0 x1 x2 hrk xa xb sx
      rw [← hy] at y0 y1 y2 hrk ya yb sy
      have bA : Below wr.heap.size wr (wr.alloc (.cells #[.string x.name, .slice (some ⟨ga, 0, none⟩) x.chs.length x.chs.length, .slice (some ⟨gb, 0, none⟩) x.dfs.length x.dfs.length] 63)) := (Below.refl _ _).alloc (Nat.le_refl _) _
      have bB : Below wr.heap.size wr ((wr.alloc (.cells #[.string x.name, .slice (some ⟨ga, 0, none⟩) x.chs.length x.chs.length, .slice (some ⟨gb, 0, none⟩) x.dfs.length x.dfs.length] 63)).alloc (.cells #[.string y.name, .slice (some ⟨gd, 0, none⟩) y.chs.length y.chs.length, .slice (some ⟨ge, 0, none⟩) y.dfs.length y.dfs.length] 63)) := bA.trans (((Below.refl _ _).alloc (Nat.le_refl _) _).mono bA.size)
      have bW := hbel.trans (bB.mono hbel.size)
      have HC : Hid (Calls _ _ _ _ _) := isSame_any ka kb x y ga gb gd ge ba bb ((wr.alloc (.cells #[.string x.name, .slice (some ⟨ga, 0, none⟩) x.chs.length x.chs.length, .slice (some ⟨gb, 0, none⟩) x.dfs.length x.dfs.length] 63)).alloc (.cells #[.string y.name, .slice (some ⟨gd, 0, none⟩) y.chs.length y.chs.length, .slice (some ⟨ge, 0, none⟩) y.dfs.length y.dfs.length] 63)) ((RdC.mk xa.readCc xb.row).next bB) ((RdC.mk ya.readCc yb.row).next bB) sx sy (Nat.lt_of_lt_of_le la bW.size) (Nat.lt_of_lt_of_le lb bW.size) ((bW.cell la).trans ca) ((bW.cell lb).trans cb)
      have y0' := (bA.cell hg2).trans y0
      have y1' := (bA.cell hg2).trans y1
      have y2' := (bA.cell hg2).trans y2
      have HRK : Hid (R = _) := hrk
      obtain ⟨P, hP⟩ : ∃ P, P = colEq ka kb x y := ⟨_, rfl⟩
      rw [← hP] at HC hrk
      have HRK : Hid (R = _) := hrk
      clear hx hy hrk R1 R2 hkl hkm hP xa xb ya yb sx sy bA bB
      cases P
      · have HF : Hid (R = false) := by show R = _; rw [HRK.out, Bool.false_and]
        clear HRK
        go_wp2_with fail
        refine HC.out.mono ?_
        rintro e w1 ⟨rfl, hb⟩
        have hbz := bW.trans (hb.mono bW.size)
        clear hb HC
        go_wp2_with fail
        go_ret
        exact ⟨by rw [HF.out]; rfl, hbz⟩
      · have HN : Hid (R = csEq ka kb (l.drop (k + 1)) (m.drop (k + 1))) := by show R = _; rw [HRK.out, Bool.true_and]
        clear HRK
        go_wp2_with fail
        refine HC.out.mono ?_
        rintro e w1 ⟨rfl, hb⟩
        have hbz := bW.trans (hb.mono bW.size)
        clear hb HC
        go_wp2_with fail
        go_roundw
        case rel => exact ⟨k + 1, by omega, by go_num, HN.out, hbz⟩
        case measure => simp [intOf]; omega
    · have hlt2 : ¬ (k : Int) < (n : Int) := by omega
      have hT : R = true := by rw [hrk]; exact csEq_end ka kb l m k (by have := HLEN.out; have := HN0.out; omega) (by have := HN0.out; omega)
      have HT : Hid (R = true) := hT
      clear hrk hT
      go_wp2_with fail
      go_ret
      exact ⟨by rw [HT.out]; rfl, hbel⟩

end Go.Proofs.YtpfbepbmiillbaaGreatDoor.Tx

/- Whether two stores have the same documents: the specification's side, and SameDocs of both. -/
namespace Go.Proofs.YtpfbepbmiillbaaGreatDoor.Tx
open Go.RowKit Tr Co Rea Ce
set_option linter.unusedVariables false

/-- The boxes of two stores, through later worlds. -/
structure Bx44 (w W : World) (a0 a1 a2 a3 e0 e1 e2 e3 : Value) : Prop where
  bel : Below w.heap.size w W
  lt : w.heap.size + 1 < W.heap.size
  c : W.cell? ⟨w.heap.size, 0, none⟩ = some (a0) ∧ W.cell? ⟨w.heap.size, 1, none⟩ = some (a1) ∧ W.cell? ⟨w.heap.size, 2, none⟩ = some (a2) ∧ W.cell? ⟨w.heap.size, 3, none⟩ = some (a3)
  d : W.cell? ⟨w.heap.size + 1, 0, none⟩ = some (e0) ∧ W.cell? ⟨w.heap.size + 1, 1, none⟩ = some (e1) ∧ W.cell? ⟨w.heap.size + 1, 2, none⟩ = some (e2) ∧ W.cell? ⟨w.heap.size + 1, 3, none⟩ = some (e3)
theorem Bx44.step {w W W' : World} {a0 a1 a2 a3 e0 e1 e2 e3 : Value} (h : Bx44 w W a0 a1 a2 a3 e0 e1 e2 e3) (hb : Below W.heap.size W W') : Bx44 w W' a0 a1 a2 a3 e0 e1 e2 e3 := by
  have l := h.lt
  have l0 : w.heap.size < W.heap.size := by omega
  obtain ⟨c0, c1, c2, c3⟩ := h.c
  obtain ⟨d0, d1, d2, d3⟩ := h.d
  exact ⟨h.bel.trans (hb.mono h.bel.size), Nat.lt_of_lt_of_le l hb.size, ⟨(hb.cell l0).trans c0, (hb.cell l0).trans c1, (hb.cell l0).trans c2, (hb.cell l0).trans c3⟩, ⟨(hb.cell l).trans d0, (hb.cell l).trans d1, (hb.cell l).trans d2, (hb.cell l).trans d3⟩⟩
theorem Bx44.start (w : World) (a0 a1 a2 a3 e0 e1 e2 e3 : Value) (T : TypeId) : Bx44 w ((w.alloc (.cells #[a0, a1, a2, a3] T)).alloc (.cells #[e0, e1, e2, e3] T)) a0 a1 a2 a3 e0 e1 e2 e3 := by
  have X := (BxTn.start w a0 a1 a2 a3 T).step ((Below.refl _ _).alloc (Nat.le_refl _) (.cells #[e0, e1, e2, e3] T))
  have Y := BxTn.start (w.alloc (.cells #[a0, a1, a2, a3] T)) e0 e1 e2 e3 T
  obtain ⟨_, yl, y0, y1, y2, y3⟩ := Y
  rw [World.size_alloc] at y0 y1 y2 y3
  exact ⟨X.bel, by simp, ⟨X.c0, X.c1, X.c2, X.c3⟩, ⟨y0, y1, y2, y3⟩⟩
theorem keepSd {w W w0 : World} {a0 a1 a2 a3 e0 e1 e2 e3 x0 x1 x2 y0 y1 y2 : Value} {p q k : Nat} (X : Bx44 w W a0 a1 a2 a3 e0 e1 e2 e3) (lp : p < W.heap.size) (lq : q < W.heap.size) (h0 : W.cell? ⟨p, k * 3, none⟩ = some x0) (h1 : W.cell? ⟨p, k * 3 + 1, none⟩ = some x1) (h2 : W.cell? ⟨p, k * 3 + 2, none⟩ = some x2) (h3 : W.cell? ⟨q, k * 3, none⟩ = some y0) (h4 : W.cell? ⟨q, k * 3 + 1, none⟩ = some y1) (h5 : W.cell? ⟨q, k * 3 + 2, none⟩ = some y2) (hb : Below W.heap.size W w0) :
    w0.cell? ⟨w.heap.size, 0, none⟩ = some (a0) ∧ w0.cell? ⟨w.heap.size, 1, none⟩ = some (a1) ∧ w0.cell? ⟨w.heap.size, 2, none⟩ = some (a2) ∧ w0.cell? ⟨w.heap.size, 3, none⟩ = some (a3) ∧ w0.cell? ⟨w.heap.size + 1, 0, none⟩ = some (e0) ∧ w0.cell? ⟨w.heap.size + 1, 1, none⟩ = some (e1) ∧ w0.cell? ⟨w.heap.size + 1, 2, none⟩ = some (e2) ∧ w0.cell? ⟨w.heap.size + 1, 3, none⟩ = some (e3) ∧ w0.cell? ⟨p, k * 3, none⟩ = some (x0) ∧ w0.cell? ⟨p, k * 3 + 1, none⟩ = some (x1) ∧ w0.cell? ⟨p, k * 3 + 2, none⟩ = some (x2) ∧ w0.cell? ⟨q, k * 3, none⟩ = some (y0) ∧ w0.cell? ⟨q, k * 3 + 1, none⟩ = some (y1) ∧ w0.cell? ⟨q, k * 3 + 2, none⟩ = some (y2) := by
  have Y := X.step hb
  obtain ⟨c0, c1, c2, c3⟩ := Y.c
  obtain ⟨d0, d1, d2, d3⟩ := Y.d
  exact ⟨c0, c1, c2, c3, d0, d1, d2, d3, (hb.cell lp).trans h0, (hb.cell lp).trans h1, (hb.cell lp).trans h2, (hb.cell lq).trans h3, (hb.cell lq).trans h4, (hb.cell lq).trans h5⟩

set_option maxRecDepth 8000 in
set_option maxHeartbeats 8000000 in
theorem l12Docs_any (gc gt gd hc ht hd cc ct cd dc dt dd b1 b2 : Nat) (a b : Sto) (w : World) (ha : MadeSto w b1 gc gt gd a) (hb : MadeSto w b2 hc ht hd b) (za : SzSto a) (zb : SzSto b) (ka : colsB a.cs = true) (kb : colsB b.cs = true) :
    Calls Tryz.prog 56 #[.agg #[.slice (some ⟨gc, 0, none⟩) a.cs.length cc, .slice (some ⟨gt, 0, none⟩) a.ts.length ct, .slice (some ⟨gd, 0, none⟩) a.ds.length cd, .int .i64 a.clk], .agg #[.slice (some ⟨hc, 0, none⟩) b.cs.length dc, .slice (some ⟨ht, 0, none⟩) b.ts.length dt, .slice (some ⟨hd, 0, none⟩) b.ds.length dd, .int .i64 b.clk]] w fun e w' => e = .returned (.bool (docsB a b)) ∧ Below w.heap.size w w' := by
  have HA : Hid (MadeCs _ _ _ _) := ha.c
  have HB : Hid (MadeCs _ _ _ _) := hb.c
  have ZA : Hid (∀ v ∈ a.cs, szCs v) := za.c1
  have ZB : Hid (∀ v ∈ b.cs, szCs v) := zb.c1
  have KA : Hid (∀ v ∈ a.cs, collB v = true) := riseN_mem a.cs none ka
  have KB : Hid (∀ v ∈ b.cs, collB v = true) := riseN_mem b.cs none kb
  have hl := za.c0
  have hm := zb.c0
  clear ha hb za zb ka kb
  obtain ⟨R, hR⟩ : ∃ R, R = docsB a b := ⟨_, rfl⟩
  rw [← hR]
  unfold docsB at hR
  have X0 := Bx44.start w (.slice (some ⟨gc, 0, none⟩) a.cs.length cc) (.slice (some ⟨gt, 0, none⟩) a.ts.length ct) (.slice (some ⟨gd, 0, none⟩) a.ds.length cd) (.int .i64 a.clk) (.slice (some ⟨hc, 0, none⟩) b.cs.length dc) (.slice (some ⟨ht, 0, none⟩) b.ts.length dt) (.slice (some ⟨hd, 0, none⟩) b.ds.length dd) (.int .i64 b.clk) 33
  by_cases hlen : b.cs.length = a.cs.length
  case neg =>
    have e1 : ¬ (a.cs.length : Int) = (b.cs.length : Int) := by omega
    have e2 : ((a.cs.length : Int) == (b.cs.length : Int)) = false := by rw [beq_eq_false_iff_ne]; exact e1
    have HF : Hid (R = false) := by show R = _; rw [hR, decide_eq_false (fun h => hlen h.symm), Bool.false_and]
    have hb0 := X0.bel
    clear hR X0
    go_enter Tryz.func56, Tryz.ntmps56
    go_wp2_with fail
    go_ret
    exact ⟨by rw [HF.out]; rfl, hb0⟩
  have HR : Hid (R = csEq a.clk b.clk (a.cs.drop 0) (b.cs.drop 0)) := by show R = _; rw [hR, decide_eq_true hlen.symm, Bool.true_and]; rfl
  have HLEN : Hid (b.cs.length = a.cs.length) := hlen
  rw [hlen] at X0 ⊢
  clear hR hlen hm
  obtain ⟨x0, x1, x2, x3⟩ := X0.c
  obtain ⟨y0, y1, y2, y3⟩ := X0.d
  have xl := X0.lt
  go_enter Tryz.func56, Tryz.ntmps56
  go_wp2_with fail
  generalize (w.alloc _).alloc _ = W0 at X0 x0 x1 x2 x3 y0 y1 y2 y3 xl ⊢
  clear x0 x1 x2 x3 y0 y1 y2 y3 xl
  go_loopw [5] (fun i wr => ∃ k : Nat, k ≤ a.cs.length ∧ i = .int .i64 k ∧ R = csEq a.clk b.clk (a.cs.drop k) (b.cs.drop k) ∧ Bx44 w wr (.slice (some ⟨gc, 0, none⟩) a.cs.length cc) (.slice (some ⟨gt, 0, none⟩) a.ts.length ct) (.slice (some ⟨gd, 0, none⟩) a.ds.length cd) (.int .i64 a.clk) (.slice (some ⟨hc, 0, none⟩) a.cs.length dc) (.slice (some ⟨ht, 0, none⟩) b.ts.length dt) (.slice (some ⟨hd, 0, none⟩) b.ds.length dd) (.int .i64 b.clk)) (fun i _ => a.cs.length - (intOf i).toNat)
  case atStart => exact ⟨0, Nat.zero_le _, rfl, HR.out, X0⟩
  case round =>
    obtain ⟨k, hk, rfl, hrk, X⟩ := hrel
    clear HR X0
    have hbel := X.bel
    obtain ⟨q0, q1, q2, q3⟩ := X.c
    obtain ⟨r0, r1, r2, r3⟩ := X.d
    have xl := X.lt
    by_cases hlt : k < a.cs.length
    · have hlt2 : (k : Int) < (a.cs.length : Int) := by omega
      have hlb : k < b.cs.length := by have := HLEN.out; omega
      have R1 := HA.out.next hbel
      have R2 := HB.out.next hbel
      obtain ⟨ga, gb, ⟨x0, x1, x2⟩, xa, xb, _⟩ := R1.cells k hlt
      obtain ⟨ge, gf, ⟨y0, y1, y2⟩, ya, yb, _⟩ := R2.cells k hlb
      have hg1 := R1.lt
      have hg2 := R2.lt
      have sx := ZA.out _ (List.getElem_mem hlt)
      have sy := ZB.out _ (List.getElem_mem hlb)
      have tx := KA.out _ (List.getElem_mem hlt)
      have ty := KB.out _ (List.getElem_mem hlb)
      rw [csEq_step a.clk b.clk a.cs b.cs k hlt hlb] at hrk
      obtain ⟨x, hx⟩ : ∃ x, x = a.cs[k] := ⟨_, rfl⟩
      obtain ⟨y, hy⟩ : ∃ y, y = b.cs[k] := ⟨_, rfl⟩
      rw [← hx] at x0 x1 x2 hrk xa xb sx tx
      rw [← hy] at y0 y1 y2 hrk ya yb sy ty
      have HSX0 := fun (W : World) (hW : Below wr.heap.size wr W) => l08Seen_any x.name (.slice (some ⟨gb, 0, none⟩) x.dfs.length x.dfs.length) x.chs a.clk ga x.chs.length W (xa.readCc.next hW) sx.chl sx.vs
      have HSY0 := fun (W : World) (hW : Below wr.heap.size wr W) => l08Seen_any y.name (.slice (some ⟨gf, 0, none⟩) y.dfs.length y.dfs.length) y.chs b.clk ge y.chs.length W (ya.readCc.next hW) sy.chl sy.vs
      rw [seen_at x a.clk tx] at HSX0
      rw [seen_at y b.clk ty] at HSY0
      have hbx := seenR_len x a.clk
      have hby := seenR_len y b.clk
      have hsx := sx.chl
      have hsy := sy.chl
      unfold colEq at hrk
      obtain ⟨L, hL⟩ : ∃ L, L = (seenR x a.clk).1 := ⟨_, rfl⟩
      obtain ⟨M, hM⟩ : ∃ M, M = (seenR y b.clk).1 := ⟨_, rfl⟩
      rw [← hL] at HSX0 hbx hrk
      rw [← hM] at HSY0 hby hrk
      have HSX : Hid (∀ W : World, Below wr.heap.size wr W → Calls _ _ _ W _) := HSX0
      have HSY : Hid (∀ W : World, Below wr.heap.size wr W → Calls _ _ _ W _) := HSY0
      have HRK : Hid (R = _) := hrk
      have HLL : Hid (L.length ≤ 1048576) := (show L.length ≤ 1048576 by omega)
      have HLM : Hid (M.length ≤ 1048576) := (show M.length ≤ 1048576 by omega)
      clear hx hy R1 R2 xa xb ya yb sx sy tx ty HSX0 HSY0 hbx hby hsx hsy hL hM hrk hlb
      go_wp2_with fail
      go_region_held3 (fun w0 => w0.cell? ⟨w.heap.size, 0, none⟩ = some (.slice (some ⟨gc, 0, none⟩) a.cs.length cc) ∧ w0.cell? ⟨w.heap.size, 1, none⟩ = some (.slice (some ⟨gt, 0, none⟩) a.ts.length ct) ∧ w0.cell? ⟨w.heap.size, 2, none⟩ = some (.slice (some ⟨gd, 0, none⟩) a.ds.length cd) ∧ w0.cell? ⟨w.heap.size, 3, none⟩ = some (.int .i64 a.clk) ∧ w0.cell? ⟨w.heap.size + 1, 0, none⟩ = some (.slice (some ⟨hc, 0, none⟩) a.cs.length dc) ∧ w0.cell? ⟨w.heap.size + 1, 1, none⟩ = some (.slice (some ⟨ht, 0, none⟩) b.ts.length dt) ∧ w0.cell? ⟨w.heap.size + 1, 2, none⟩ = some (.slice (some ⟨hd, 0, none⟩) b.ds.length dd) ∧ w0.cell? ⟨w.heap.size + 1, 3, none⟩ = some (.int .i64 b.clk) ∧ w0.cell? ⟨gc, k * 3, none⟩ = some (.string x.name) ∧ w0.cell? ⟨gc, k * 3 + 1, none⟩ = some (.slice (some ⟨ga, 0, none⟩) x.chs.length x.chs.length) ∧ w0.cell? ⟨gc, k * 3 + 2, none⟩ = some (.slice (some ⟨gb, 0, none⟩) x.dfs.length x.dfs.length) ∧ w0.cell? ⟨hc, k * 3, none⟩ = some (.string y.name) ∧ w0.cell? ⟨hc, k * 3 + 1, none⟩ = some (.slice (some ⟨ge, 0, none⟩) y.chs.length y.chs.length) ∧ w0.cell? ⟨hc, k * 3 + 2, none⟩ = some (.slice (some ⟨gf, 0, none⟩) y.dfs.length y.dfs.length)) ((refine keepSd X hg1 hg2 x0 x1 x2 y0 y1 y2 ?_; (repeat (first | (with_reducible exact Below.refl _ _) | (with_reducible assumption) | (with_reducible apply below_drewN) | (with_reducible apply Below.drew) | ((with_reducible refine Below.setCell ?_ ?_ _); rotate_left; focus (first | (simp; done) | (simp; omega) | omega)) | ((with_reducible refine Below.alloc ?_ ?_ _); rotate_left; focus (first | (simp; done) | (simp; omega) | omega)))))) ((go_at_call 51; refine (HSX.out _ (by (repeat (first | (with_reducible exact Below.refl _ _) | (with_reducible assumption) | (with_reducible apply below_drewN) | (with_reducible apply Below.drew) | ((with_reducible refine Below.setCell ?_ ?_ _); rotate_left; focus (first | (simp; done) | (simp; omega) | omega)) | ((with_reducible refine Below.alloc ?_ ?_ _); rotate_left; focus (first | (simp; done) | (simp; omega) | omega)))))).mono ?_; rintro e w1 ⟨⟨v1, rfl, O⟩, hb⟩; have hBw1 : Below wr.heap.size wr w1 := (show Below wr.heap.size wr _ by (repeat (first | (with_reducible exact Below.refl _ _) | (with_reducible assumption) | (with_reducible apply below_drewN) | (with_reducible apply Below.drew) | ((with_reducible refine Below.setCell ?_ ?_ _); rotate_left; focus (first | (simp; done) | (simp; omega) | omega)) | ((with_reducible refine Below.alloc ?_ ?_ _); rotate_left; focus (first | (simp; done) | (simp; omega) | omega))))).trans (hb.mono (by first | (simp; done) | (simp; omega) | omega)); clear hb; obtain ⟨p1, cp1, rfl, RL⟩ := own_row O; have HRL : Hid (RowV w1 p1 L) := RL; clear O RL))
      have X1 := X.step hBw1
      obtain ⟨q0, q1, q2, q3⟩ := X1.c
      obtain ⟨r0, r1, r2, r3⟩ := X1.d
      have xl1 := X1.lt
      go_wp2_with fail
      go_region_held3 (fun w0 => w0.cell? ⟨w.heap.size, 0, none⟩ = some (.slice (some ⟨gc, 0, none⟩) a.cs.length cc) ∧ w0.cell? ⟨w.heap.size, 1, none⟩ = some (.slice (some ⟨gt, 0, none⟩) a.ts.length ct) ∧ w0.cell? ⟨w.heap.size, 2, none⟩ = some (.slice (some ⟨gd, 0, none⟩) a.ds.length cd) ∧ w0.cell? ⟨w.heap.size, 3, none⟩ = some (.int .i64 a.clk) ∧ w0.cell? ⟨w.heap.size + 1, 0, none⟩ = some (.slice (some ⟨hc, 0, none⟩) a.cs.length dc) ∧ w0.cell? ⟨w.heap.size + 1, 1, none⟩ = some (.slice (some ⟨ht, 0, none⟩) b.ts.length dt) ∧ w0.cell? ⟨w.heap.size + 1, 2, none⟩ = some (.slice (some ⟨hd, 0, none⟩) b.ds.length dd) ∧ w0.cell? ⟨w.heap.size + 1, 3, none⟩ = some (.int .i64 b.clk) ∧ w0.cell? ⟨gc, k * 3, none⟩ = some (.string x.name) ∧ w0.cell? ⟨gc, k * 3 + 1, none⟩ = some (.slice (some ⟨ga, 0, none⟩) x.chs.length x.chs.length) ∧ w0.cell? ⟨gc, k * 3 + 2, none⟩ = some (.slice (some ⟨gb, 0, none⟩) x.dfs.length x.dfs.length) ∧ w0.cell? ⟨hc, k * 3, none⟩ = some (.string y.name) ∧ w0.cell? ⟨hc, k * 3 + 1, none⟩ = some (.slice (some ⟨ge, 0, none⟩) y.chs.length y.chs.length) ∧ w0.cell? ⟨hc, k * 3 + 2, none⟩ = some (.slice (some ⟨gf, 0, none⟩) y.dfs.length y.dfs.length)) ((refine keepSd X hg1 hg2 x0 x1 x2 y0 y1 y2 ?_; (repeat (first | (with_reducible exact Below.refl _ _) | (with_reducible assumption) | (with_reducible apply below_drewN) | (with_reducible apply Below.drew) | ((with_reducible refine Below.setCell ?_ ?_ _); rotate_left; focus (first | (simp; done) | (simp; omega) | omega)) | ((with_reducible refine Below.alloc ?_ ?_ _); rotate_left; focus (first | (simp; done) | (simp; omega) | omega)))))) ((go_at_call 51; refine (HSY.out _ (by (repeat (first | (with_reducible exact Below.refl _ _) | (with_reducible assumption) | (with_reducible apply below_drewN) | (with_reducible apply Below.drew) | ((with_reducible refine Below.setCell ?_ ?_ _); rotate_left; focus (first | (simp; done) | (simp; omega) | omega)) | ((with_reducible refine Below.alloc ?_ ?_ _); rotate_left; focus (first | (simp; done) | (simp; omega) | omega)))))).mono ?_; rintro e w2 ⟨⟨v2, rfl, O⟩, hb⟩; have hBB : Below w1.heap.size w1 w2 := (show Below w1.heap.size w1 _ by (repeat (first | (with_reducible exact Below.refl _ _) | (with_reducible assumption) | (with_reducible apply below_drewN) | (with_reducible apply Below.drew) | ((with_reducible refine Below.setCell ?_ ?_ _); rotate_left; focus (first | (simp; done) | (simp; omega) | omega)) | ((with_reducible refine Below.alloc ?_ ?_ _); rotate_left; focus (first | (simp; done) | (simp; omega) | omega))))).trans (hb.mono (by first | (simp; done) | (simp; omega) | omega)); have hBW2 : Below wr.heap.size wr w2 := hBw1.trans (hBB.mono hBw1.size); clear hb; obtain ⟨p2, cp2, rfl, RM⟩ := own_row O; have HRM : Hid (RowV w2 p2 M) := RM; clear O RM))
      have HRL2 : Hid (RowV w2 p1 L) := HRL.out.next hBB
      have hB2 : Below wr.heap.size wr w2 := hBW2
      have X2 := X.step hB2
      have z0 := (hB2.cell hg1).trans x0
      have u0 := (hB2.cell hg2).trans y0
      have hg3 := Nat.lt_of_lt_of_le hg1 hB2.size
      have hg4 := Nat.lt_of_lt_of_le hg2 hB2.size
      clear HRL HSX HSY hBB hBw1 hBW2 X1 xl1 q0 q1 q2 q3 r0 r1 r2 r3 x0 x1 x2 y0 y1 y2 hg1 hg2 hB2 X hbel xl
      obtain ⟨q0, q1, q2, q3⟩ := X2.c
      obtain ⟨r0, r1, r2, r3⟩ := X2.d
      have xl := X2.lt
      have hb2 := X2.bel
      cases hn : (x.name.toList == y.name.toList)
      · have HF : Hid (R = false) := by show R = _; rw [HRK.out, hn]; simp
        clear HRK
        go_wp2_with fail
        go_quiet (fail)
        go_wp2_with fail
        go_ret
        exact ⟨by rw [HF.out]; rfl, by (repeat (first | (with_reducible exact Below.refl _ _) | (with_reducible assumption) | (with_reducible apply below_drewN) | (with_reducible apply Below.drew) | ((with_reducible refine Below.setCell ?_ ?_ _); rotate_left; focus (first | (simp; done) | (simp; omega) | omega)) | ((with_reducible refine Below.alloc ?_ ?_ _); rotate_left; focus (first | (simp; done) | (simp; omega) | omega))))⟩
      by_cases hll : M.length = L.length
      case neg =>
        have e1 : ¬ (L.length : Int) = (M.length : Int) := by omega
        have e2 : ((L.length : Int) == (M.length : Int)) = false := by rw [beq_eq_false_iff_ne]; exact e1
        have HF : Hid (R = false) := by show R = _; rw [HRK.out, decide_eq_false (fun h => hll h.symm)]; simp
        clear HRK
        go_wp2_with fail
        go_quiet (fail)
        go_wp2_with fail
        go_ret
        exact ⟨by rw [HF.out]; rfl, by (repeat (first | (with_reducible exact Below.refl _ _) | (with_reducible assumption) | (with_reducible apply below_drewN) | (with_reducible apply Below.drew) | ((with_reducible refine Below.setCell ?_ ?_ _); rotate_left; focus (first | (simp; done) | (simp; omega) | omega)) | ((with_reducible refine Below.alloc ?_ ?_ _); rotate_left; focus (first | (simp; done) | (simp; omega) | omega))))⟩
      obtain ⟨Q, hQ⟩ : ∃ Q, Q = csEq a.clk b.clk (a.cs.drop (k + 1)) (b.cs.drop (k + 1)) := ⟨_, rfl⟩
      have HR2 : Hid (R = (lEq (L.drop 0) (M.drop 0) && Q)) := by show R = _; rw [HRK.out, hn, decide_eq_true hll.symm, hQ, Bool.true_and, Bool.true_and]; rfl
      have HQ : Hid (Q = _) := hQ
      have HLE : Hid (M.length = L.length) := hll
      rw [hll]
      have hLL := HLL.out
      clear HRK hQ hll HLM
      go_wp2_with fail
      go_quiet (fail)
      go_wp2_with fail
      clear q0 q1 q2 q3 r0 r1 r2 r3 z0 u0 hg3 hg4 xl hb2 hn
      go_loopw [8] (fun i wq => ∃ j : Nat, j ≤ L.length ∧ i = .int .i64 j ∧ R = (lEq (L.drop j) (M.drop j) && Q) ∧ Below w2.heap.size w2 wq) (fun i _ => L.length - (intOf i).toNat)
      case atStart => exact ⟨0, Nat.zero_le _, rfl, HR2.out, by (repeat (first | (with_reducible exact Below.refl _ _) | (with_reducible assumption) | (with_reducible apply below_drewN) | (with_reducible apply Below.drew) | ((with_reducible refine Below.setCell ?_ ?_ _); rotate_left; focus (first | (simp; done) | (simp; omega) | omega)) | ((with_reducible refine Below.alloc ?_ ?_ _); rotate_left; focus (first | (simp; done) | (simp; omega) | omega))))⟩
      case round =>
        obtain ⟨j, hj, rfl, hrj, hbl⟩ := hrel
        clear HR2
        have X4 := X2.step hbl
        have hbw := X4.bel
        by_cases hjt : j < L.length
        · have hjt2 : (j : Int) < (L.length : Int) := by omega
          have hjm : j < M.length := by have := HLE.out; omega
          rcases HRL2.out.next hbl with h0 | ⟨g1, rfl, R1⟩
          · subst h0; simp at hjt
          rcases HRM.out.next hbl with h0 | ⟨g2, rfl, R2⟩
          · subst h0; simp at hjm
          obtain ⟨x0, x1, x2⟩ := R1.cells j hjt
          obtain ⟨y0, y1, y2⟩ := R2.cells j hjm
          rw [lEq_step L M j hjt hjm] at hrj
          obtain ⟨s, hs⟩ : ∃ s, s = L[j] := ⟨_, rfl⟩
          obtain ⟨t, ht⟩ : ∃ t, t = M[j] := ⟨_, rfl⟩
          rw [← hs] at x0 x1 x2 hrj
          rw [← ht] at y0 y1 y2 hrj
          have HRJ : Hid (R = _) := hrj
          clear hs ht hrj R1 R2 hjm
          rcases vEq_ways s t with ⟨hv, q1, q2, q3⟩ | ⟨hv, hq⟩
          · have HN : Hid (R = (lEq (L.drop (j + 1)) (M.drop (j + 1)) && Q)) := by show R = _; rw [HRJ.out, hv, Bool.true_and]
            clear HRJ hv
            go_wp2_with fail
            go_quiet (fail)
            go_wp2_with fail
            go_roundw
            case rel => exact ⟨j + 1, by omega, by go_num, HN.out, by (repeat (first | (with_reducible exact Below.refl _ _) | (with_reducible assumption) | (with_reducible apply below_drewN) | (with_reducible apply Below.drew) | ((with_reducible refine Below.setCell ?_ ?_ _); rotate_left; focus (first | (simp; done) | (simp; omega) | omega)) | ((with_reducible refine Below.alloc ?_ ?_ _); rotate_left; focus (first | (simp; done) | (simp; omega) | omega))))⟩
            case measure => simp [intOf]; omega
          · have HF : Hid (R = false) := by show R = _; rw [HRJ.out, hv]; simp
            clear HRJ hv
            rcases hq with q1 | ⟨q1, q2⟩ | ⟨q1, q2, q3⟩
            all_goals
              go_wp2_with fail
              go_quiet (fail)
              go_wp2_with fail
              go_ret
              exact ⟨by rw [HF.out]; rfl, by (repeat (first | (with_reducible exact Below.refl _ _) | (with_reducible assumption) | (with_reducible apply below_drewN) | (with_reducible apply Below.drew) | ((with_reducible refine Below.setCell ?_ ?_ _); rotate_left; focus (first | (simp; done) | (simp; omega) | omega)) | ((with_reducible refine Below.alloc ?_ ?_ _); rotate_left; focus (first | (simp; done) | (simp; omega) | omega))))⟩
        · have hjt2 : ¬ (j : Int) < (L.length : Int) := by omega
          have HN : Hid (R = csEq a.clk b.clk (a.cs.drop (k + 1)) (b.cs.drop (k + 1))) := by show R = _; rw [hrj, lEq_end L M j (by omega) (by have := HLE.out; omega), Bool.true_and]; exact HQ.out
          clear hrj
          go_wp2_with fail
          go_roundw
          case rel => exact ⟨k + 1, by omega, by go_num, HN.out, X4⟩
          case measure => simp [intOf]; omega
    · have hlt2 : ¬ (k : Int) < (a.cs.length : Int) := by omega
      have HT : Hid (R = true) := by show R = _; rw [hrk]; exact csEq_end _ _ _ _ k (by omega) (by have := HLEN.out; omega)
      clear hrk
      go_wp2_with fail
      go_ret
      exact ⟨by rw [HT.out]; rfl, hbel⟩

set_option maxRecDepth 8000 in
set_option maxHeartbeats 4000000 in
theorem specSameD_any (gc gt gd hc ht hd cc ct cd dc dt dd b1 b2 : Nat) (a b : Sto) (w : World) (ha : MadeSto w b1 gc gt gd a) (hb : MadeSto w b2 hc ht hd b) (za : SzSto a) (zb : SzSto b) :
    Calls Tryz.prog 26 #[.agg #[.slice (some ⟨gc, 0, none⟩) a.cs.length cc, .slice (some ⟨gt, 0, none⟩) a.ts.length ct, .slice (some ⟨gd, 0, none⟩) a.ds.length cd, .int .i64 a.clk], .agg #[.slice (some ⟨hc, 0, none⟩) b.cs.length dc, .slice (some ⟨ht, 0, none⟩) b.ts.length dt, .slice (some ⟨hd, 0, none⟩) b.ds.length dd, .int .i64 b.clk]] w fun e w' => e = .returned (.tuple #[.bool (sdR a b).1, .int .i64 (sdR a b).2]) ∧ Below w.heap.size w w' := by
  have X0 := Bx44.start w (.slice (some ⟨gc, 0, none⟩) a.cs.length cc) (.slice (some ⟨gt, 0, none⟩) a.ts.length ct) (.slice (some ⟨gd, 0, none⟩) a.ds.length cd) (.int .i64 a.clk) (.slice (some ⟨hc, 0, none⟩) b.cs.length dc) (.slice (some ⟨ht, 0, none⟩) b.ts.length dt) (.slice (some ⟨hd, 0, none⟩) b.ds.length dd) (.int .i64 b.clk) 33
  have HSA : Hid (∀ W : World, Below w.heap.size w W → Calls _ _ _ W _) := fun W hW => specStoB_any b1 gc gt gd cc ct cd a W (ha.next hW) za
  have HSB : Hid (∀ W : World, Below w.heap.size w W → Calls _ _ _ W _) := fun W hW => specStoB_any b2 hc ht hd dc dt dd b W (hb.next hW) zb
  have HC : Hid (stoB a = true → stoB b = true → ∀ W : World, Below w.heap.size w W → Calls _ _ _ W _) := fun h1 h2 W hW => l12Docs_any gc gt gd hc ht hd cc ct cd dc dt dd b1 b2 a b W (ha.next hW) (hb.next hW) za zb (stoB_cols a h1) (stoB_cols b h2)
  clear ha hb za zb
  obtain ⟨S, hS⟩ : ∃ S, S = sdR a b := ⟨_, rfl⟩
  rw [← hS]
  unfold sdR docsB at hS
  obtain ⟨A, hA⟩ : ∃ A, A = stoB a := ⟨_, rfl⟩
  obtain ⟨B, hB⟩ : ∃ B, B = stoB b := ⟨_, rfl⟩
  obtain ⟨P, hP⟩ : ∃ P, P = (decide (a.cs.length = b.cs.length) && csEq a.clk b.clk a.cs b.cs) := ⟨_, rfl⟩
  have hPd : docsB a b = P := by rw [hP]; rfl
  rw [hPd] at HC
  rw [← hA] at HSA HC
  rw [← hB] at HSB HC
  rw [← hA, ← hB, ← hP] at hS
  have HS : Hid (S = _) := hS
  clear hS hA hB hP hPd
  obtain ⟨x0, x1, x2, x3⟩ := X0.c
  obtain ⟨y0, y1, y2, y3⟩ := X0.d
  have xl := X0.lt
  go_enter Tryz.func26, Tryz.ntmps26
  go_wp2_with fail
  refine (HSA.out _ X0.bel).mono ?_
  rintro e w1 ⟨rfl, hb⟩
  have X1 := X0.step hb
  clear hb X0 HSA x0 x1 x2 x3 y0 y1 y2 y3 xl
  obtain ⟨x0, x1, x2, x3⟩ := X1.c
  obtain ⟨y0, y1, y2, y3⟩ := X1.d
  have xl := X1.lt
  have hb1 := X1.bel
  cases A
  · have HF : Hid (S = (false, 1)) := HS.out
    clear HS HC
    go_wp2_with fail
    go_ret2
    exact ⟨by rw [HF.out]; rfl, hb1⟩
  go_wp2_with fail
  refine (HSB.out _ X1.bel).mono ?_
  rintro e w2 ⟨rfl, hb⟩
  have X2 := X1.step hb
  clear hb X1 HSB x0 x1 x2 x3 y0 y1 y2 y3 xl hb1
  obtain ⟨x0, x1, x2, x3⟩ := X2.c
  obtain ⟨y0, y1, y2, y3⟩ := X2.d
  have xl := X2.lt
  have hb2 := X2.bel
  cases B
  · have HF : Hid (S = (false, 1)) := HS.out
    clear HS HC
    go_wp2_with fail
    go_ret2
    exact ⟨by rw [HF.out]; rfl, hb2⟩
  have HF : Hid (S = (P, 0)) := HS.out
  clear HS
  go_wp2_with fail
  refine (HC.out (by simp) (by simp) _ X2.bel).mono ?_
  rintro e w3 ⟨rfl, hb⟩
  have hb3 := hb2.trans (hb.mono hb2.size)
  clear hb HC
  go_wp2_with fail
  go_ret2
  exact ⟨by rw [HF.out]; rfl, hb3⟩

set_option maxRecDepth 8000 in
set_option maxHeartbeats 4000000 in
theorem implSameD_any (gc gt gd hc ht hd cc ct cd dc dt dd b1 b2 : Nat) (a b : Sto) (w : World) (ha : MadeSto w b1 gc gt gd a) (hb : MadeSto w b2 hc ht hd b) (za : SzSto a) (zb : SzSto b) :
    Calls Tryz.prog 27 #[.agg #[.slice (some ⟨gc, 0, none⟩) a.cs.length cc, .slice (some ⟨gt, 0, none⟩) a.ts.length ct, .slice (some ⟨gd, 0, none⟩) a.ds.length cd, .int .i64 a.clk], .agg #[.slice (some ⟨hc, 0, none⟩) b.cs.length dc, .slice (some ⟨ht, 0, none⟩) b.ts.length dt, .slice (some ⟨hd, 0, none⟩) b.ds.length dd, .int .i64 b.clk]] w fun e w' => e = .returned (.tuple #[.bool (sdR a b).1, .int .i64 (sdR a b).2]) ∧ Below w.heap.size w w' := by
  have X0 := Bx44.start w (.slice (some ⟨gc, 0, none⟩) a.cs.length cc) (.slice (some ⟨gt, 0, none⟩) a.ts.length ct) (.slice (some ⟨gd, 0, none⟩) a.ds.length cd) (.int .i64 a.clk) (.slice (some ⟨hc, 0, none⟩) b.cs.length dc) (.slice (some ⟨ht, 0, none⟩) b.ts.length dt) (.slice (some ⟨hd, 0, none⟩) b.ds.length dd) (.int .i64 b.clk) 33
  have HSA : Hid (∀ W : World, Below w.heap.size w W → Calls _ _ _ W _) := fun W hW => storeOK_any b1 gc gt gd cc ct cd a W (ha.next hW) za
  have HSB : Hid (∀ W : World, Below w.heap.size w W → Calls _ _ _ W _) := fun W hW => storeOK_any b2 hc ht hd dc dt dd b W (hb.next hW) zb
  have HC : Hid (∀ W : World, Bx44 w W (.slice (some ⟨gc, 0, none⟩) a.cs.length cc) (.slice (some ⟨gt, 0, none⟩) a.ts.length ct) (.slice (some ⟨gd, 0, none⟩) a.ds.length cd) (.int .i64 a.clk) (.slice (some ⟨hc, 0, none⟩) b.cs.length dc) (.slice (some ⟨ht, 0, none⟩) b.ts.length dt) (.slice (some ⟨hd, 0, none⟩) b.ds.length dd) (.int .i64 b.clk) → Calls _ _ _ W _) := fun W hW => equalC_any a.clk b.clk gc hc cc dc b1 b2 w.heap.size (w.heap.size + 1) a.cs b.cs W (ha.c.next hW.bel) (hb.c.next hW.bel) za.c1 zb.c1 za.c0 zb.c0 (by have := hW.lt; omega) hW.lt hW.c.2.2.2 hW.d.2.2.2
  clear ha hb za zb
  obtain ⟨S, hS⟩ : ∃ S, S = sdR a b := ⟨_, rfl⟩
  rw [← hS]
  unfold sdR docsB at hS
  obtain ⟨A, hA⟩ : ∃ A, A = stoB a := ⟨_, rfl⟩
  obtain ⟨B, hB⟩ : ∃ B, B = stoB b := ⟨_, rfl⟩
  obtain ⟨P, hP⟩ : ∃ P, P = (decide (a.cs.length = b.cs.length) && csEq a.clk b.clk a.cs b.cs) := ⟨_, rfl⟩
  rw [← hP] at HC
  rw [← hA] at HSA
  rw [← hB] at HSB
  rw [← hA, ← hB, ← hP] at hS
  have HS : Hid (S = _) := hS
  clear hS hA hB hP
  obtain ⟨x0, x1, x2, x3⟩ := X0.c
  obtain ⟨y0, y1, y2, y3⟩ := X0.d
  have xl := X0.lt
  go_enter Tryz.func27, Tryz.ntmps27
  go_wp2_with fail
  refine (HSA.out _ X0.bel).mono ?_
  rintro e w1 ⟨rfl, hb⟩
  have X1 := X0.step hb
  clear hb X0 HSA x0 x1 x2 x3 y0 y1 y2 y3 xl
  obtain ⟨x0, x1, x2, x3⟩ := X1.c
  obtain ⟨y0, y1, y2, y3⟩ := X1.d
  have xl := X1.lt
  have hb1 := X1.bel
  cases A
  · have HF : Hid (S = (false, 1)) := HS.out
    clear HS HC
    go_wp2_with fail
    go_ret2
    exact ⟨by rw [HF.out]; rfl, hb1⟩
  go_wp2_with fail
  refine (HSB.out _ X1.bel).mono ?_
  rintro e w2 ⟨rfl, hb⟩
  have X2 := X1.step hb
  clear hb X1 HSB x0 x1 x2 x3 y0 y1 y2 y3 xl hb1
  obtain ⟨x0, x1, x2, x3⟩ := X2.c
  obtain ⟨y0, y1, y2, y3⟩ := X2.d
  have xl := X2.lt
  have hb2 := X2.bel
  cases B
  · have HF : Hid (S = (false, 1)) := HS.out
    clear HS HC
    go_wp2_with fail
    go_ret2
    exact ⟨by rw [HF.out]; rfl, hb2⟩
  have HF : Hid (S = (P, 0)) := HS.out
  clear HS
  go_wp2_with fail
  refine (HC.out _ X2).mono ?_
  rintro e w3 ⟨rfl, hb⟩
  have hb3 := hb2.trans (hb.mono hb2.size)
  clear hb HC
  go_wp2_with fail
  go_ret2
  exact ⟨by rw [HF.out]; rfl, hb3⟩

end Go.Proofs.YtpfbepbmiillbaaGreatDoor.Tx

/- The law's own walk of SameDocs. -/
namespace Go.Proofs.YtpfbepbmiillbaaGreatDoor.Tx
open Go.RowKit Tr Co Rea Ce
set_option linter.unusedVariables false

theorem keepS2 {w W w0 : World} {a0 a1 a2 a3 e0 e1 e2 e3 : Value} (X : Bx44 w W a0 a1 a2 a3 e0 e1 e2 e3) (hb : Below W.heap.size W w0) : w0.cell? ⟨w.heap.size, 0, none⟩ = some (a0) ∧ w0.cell? ⟨w.heap.size, 1, none⟩ = some (a1) ∧ w0.cell? ⟨w.heap.size, 2, none⟩ = some (a2) ∧ w0.cell? ⟨w.heap.size, 3, none⟩ = some (a3) ∧ w0.cell? ⟨w.heap.size + 1, 0, none⟩ = some (e0) ∧ w0.cell? ⟨w.heap.size + 1, 1, none⟩ = some (e1) ∧ w0.cell? ⟨w.heap.size + 1, 2, none⟩ = some (e2) ∧ w0.cell? ⟨w.heap.size + 1, 3, none⟩ = some (e3) := by
  have Y := X.step hb
  obtain ⟨c0, c1, c2, c3⟩ := Y.c
  obtain ⟨d0, d1, d2, d3⟩ := Y.d
  exact ⟨c0, c1, c2, c3, d0, d1, d2, d3⟩
theorem keepS4 {w W w0 : World} {a0 a1 a2 a3 e0 e1 e2 e3 f0 f1 f2 f3 h0 h1 h2 h3 : Value} {U V : TypeId} {ba bb : Nat} (X : Bx44 w W a0 a1 a2 a3 e0 e1 e2 e3) (ma : ba < W.heap.size) (mb : bb < W.heap.size) (ya : W.heap[ba]? = some (.cells #[f0, f1, f2, f3] U (0, 0))) (yb : W.heap[bb]? = some (.cells #[h0, h1, h2, h3] V (0, 0))) (hb : Below W.heap.size W w0) : w0.cell? ⟨w.heap.size, 0, none⟩ = some (a0) ∧ w0.cell? ⟨w.heap.size, 1, none⟩ = some (a1) ∧ w0.cell? ⟨w.heap.size, 2, none⟩ = some (a2) ∧ w0.cell? ⟨w.heap.size, 3, none⟩ = some (a3) ∧ w0.cell? ⟨w.heap.size + 1, 0, none⟩ = some (e0) ∧ w0.cell? ⟨w.heap.size + 1, 1, none⟩ = some (e1) ∧ w0.cell? ⟨w.heap.size + 1, 2, none⟩ = some (e2) ∧ w0.cell? ⟨w.heap.size + 1, 3, none⟩ = some (e3) ∧ w0.cell? ⟨ba, 0, none⟩ = some (f0) ∧ w0.cell? ⟨ba, 1, none⟩ = some (f1) ∧ w0.cell? ⟨ba, 2, none⟩ = some (f2) ∧ w0.cell? ⟨ba, 3, none⟩ = some (f3) ∧ w0.cell? ⟨bb, 0, none⟩ = some (h0) ∧ w0.cell? ⟨bb, 1, none⟩ = some (h1) ∧ w0.cell? ⟨bb, 2, none⟩ = some (h2) ∧ w0.cell? ⟨bb, 3, none⟩ = some (h3) := by
  obtain ⟨c0, c1, c2, c3, d0, d1, d2, d3⟩ := keepS2 X hb
  obtain ⟨z0, z1, z2, z3⟩ := fourTn ((hb.block _ ma).trans ya)
  obtain ⟨u0, u1, u2, u3⟩ := fourTn ((hb.block _ mb).trans yb)
  exact ⟨c0, c1, c2, c3, d0, d1, d2, d3, z0, z1, z2, z3, u0, u1, u2, u3⟩
end Go.Proofs.YtpfbepbmiillbaaGreatDoor.Tx
namespace Go.Proofs.YtpfbepbmiillbaaGreatDoor.SameDcf
open Go.RowKit Tr Co Rea Ce Tx
set_option linter.unusedVariables false

set_option maxRecDepth 8000 in
set_option maxHeartbeats 8000000 in
theorem walk (p1 p2 p3 : Option Addr) (c1 c2 c3 : Nat) (a : Sto) (hma : MaxSto a) (q1 q2 q3 : Option Addr) (d1 d2 d3 : Nat) (b : Sto) (hmb : MaxSto b) (w : World) (hia : InSto w p1 p2 p3 a) (hib : InSto w q1 q2 q3 b) :
    Calls Tryz.prog 7 #[.agg #[.slice p1 a.cs.length c1, .slice p2 a.ts.length c2, .slice p3 a.ds.length c3, .int .i64 a.clk], .agg #[.slice q1 b.cs.length d1, .slice q2 b.ts.length d2, .slice q3 b.ds.length d3, .int .i64 b.clk]] w fun e w' => e = .returned (.bool true) ∧ Below w.heap.size w w' := by
  have X0 := Bx44.start w (.slice p1 a.cs.length c1) (.slice p2 a.ts.length c2) (.slice p3 a.ds.length c3) (.int .i64 a.clk) (.slice q1 b.cs.length d1) (.slice q2 b.ts.length d2) (.slice q3 b.ds.length d3) (.int .i64 b.clk) 26
  have HZA : Hid (∀ W : World, Below w.heap.size w W → Calls _ _ _ W _) := fun W hW => szStore_any p1 p2 p3 c1 c2 c3 a 1048576 W (hia.step hW) hma (by omega) (by omega)
  have HZB : Hid (∀ (L : Int) (W : World), 0 ≤ L → L ≤ 1048576 → Below w.heap.size w W → Calls _ _ _ W _) := fun L W h0 h1 hW => szStore_any q1 q2 q3 d1 d2 d3 b L W (hib.step hW) hmb h0 h1
  have HIN : Hid (InSto w p1 p2 p3 a ∧ InSto w q1 q2 q3 b) := ⟨hia, hib⟩
  clear hma hmb hia hib
  obtain ⟨x0, x1, x2, x3, y0, y1, y2, y3⟩ := keepS2 X0 (Below.refl _ _)
  go_enter Tryz.func7, Tryz.ntmps7
  go_wp2_with fail
  refine (HZA.out _ X0.bel).mono ?_
  rintro e w1 ⟨⟨r1, rfl, hr⟩, hb⟩
  have X1 := X0.step hb
  clear hb HZA X0 x0 x1 x2 x3 y0 y1 y2 y3
  obtain ⟨x0, x1, x2, x3, y0, y1, y2, y3⟩ := keepS2 X1 (Below.refl _ _)
  have hb0 := X1.bel
  rcases hr with hneg | ⟨t0, t1, t2⟩
  · go_wp2_with fail
    go_ret
    exact ⟨rfl, hb0⟩
  have hn1 : ¬ r1 < 0 := by omega
  have HZa : Hid (SzSto a) := t2
  clear t2
  go_wp2_with fail
  refine (HZB.out r1 _ t0 t1 X1.bel).mono ?_
  rintro e w2 ⟨⟨r2, rfl, hr⟩, hb⟩
  have X2 := X1.step hb
  clear hb HZB X1 x0 x1 x2 x3 y0 y1 y2 y3 hb0
  obtain ⟨x0, x1, x2, x3, y0, y1, y2, y3⟩ := keepS2 X2 (Below.refl _ _)
  have hb0 := X2.bel
  rcases hr with hneg | ⟨s0, s1, s2⟩
  · go_wp2_with fail
    go_ret
    exact ⟨rfl, hb0⟩
  have hn2 : ¬ r2 < 0 := by omega
  have HZb : Hid (SzSto b) := s2
  have HTa : Hid (∀ W : World, Below w.heap.size w W → Calls _ _ _ W _) := fun W hW => toStore_any p1 p2 p3 c1 c2 c3 a W (HIN.out.1.step hW) HZa.out
  have HTb : Hid (∀ W : World, Below w.heap.size w W → Calls _ _ _ W _) := fun W hW => toStore_any q1 q2 q3 d1 d2 d3 b W (HIN.out.2.step hW) HZb.out
  have HS : Hid (∀ (g1 g2 g3 h1 h2 h3 m n : Nat) (W : World), MadeSto W m g1 g2 g3 a → MadeSto W n h1 h2 h3 b → Calls _ _ _ W _) := fun g1 g2 g3 h1 h2 h3 m n W hA hB => specSameD_any g1 g2 g3 h1 h2 h3 a.cs.length a.ts.length a.ds.length b.cs.length b.ts.length b.ds.length m n a b W hA hB HZa.out HZb.out
  have HI : Hid (∀ (g1 g2 g3 h1 h2 h3 m n : Nat) (W : World), MadeSto W m g1 g2 g3 a → MadeSto W n h1 h2 h3 b → Calls _ _ _ W _) := fun g1 g2 g3 h1 h2 h3 m n W hA hB => implSameD_any g1 g2 g3 h1 h2 h3 a.cs.length a.ts.length a.ds.length b.cs.length b.ts.length b.ds.length m n a b W hA hB HZa.out HZb.out
  obtain ⟨P1, hP1⟩ : ∃ P, P = (sdR a b).1 := ⟨_, rfl⟩
  obtain ⟨P2, hP2⟩ : ∃ P, P = (sdR a b).2 := ⟨_, rfl⟩
  rw [← hP1, ← hP2] at HS HI
  clear s2 hP1 hP2 t0 t1 s0 s1
  go_wp2_with fail
  go_region_held3 (fun w0 => w0.cell? ⟨w.heap.size, 0, none⟩ = some (.slice p1 a.cs.length c1) ∧ w0.cell? ⟨w.heap.size, 1, none⟩ = some (.slice p2 a.ts.length c2) ∧ w0.cell? ⟨w.heap.size, 2, none⟩ = some (.slice p3 a.ds.length c3) ∧ w0.cell? ⟨w.heap.size, 3, none⟩ = some (.int .i64 a.clk) ∧ w0.cell? ⟨w.heap.size + 1, 0, none⟩ = some (.slice q1 b.cs.length d1) ∧ w0.cell? ⟨w.heap.size + 1, 1, none⟩ = some (.slice q2 b.ts.length d2) ∧ w0.cell? ⟨w.heap.size + 1, 2, none⟩ = some (.slice q3 b.ds.length d3) ∧ w0.cell? ⟨w.heap.size + 1, 3, none⟩ = some (.int .i64 b.clk)) ((refine keepS2 X2 ?_; (repeat (first | (with_reducible exact Below.refl _ _) | (with_reducible assumption) | (with_reducible apply below_drewN) | (with_reducible apply Below.drew) | ((with_reducible refine Below.setCell ?_ ?_ _); rotate_left; focus (first | (simp; done) | (simp; omega) | omega)) | ((with_reducible refine Below.alloc ?_ ?_ _); rotate_left; focus (first | (simp; done) | (simp; omega) | omega)))))) (first | (go_at_call 10; (with_reducible show Calls _ _ #[.agg #[.slice p1 _ _, _, _, .int .i64 a.clk]] _ _); refine (HTa.out _ (X2.bel.trans ((show Below w2.heap.size w2 _ by (repeat (first | (with_reducible exact Below.refl _ _) | (with_reducible assumption) | (with_reducible apply below_drewN) | (with_reducible apply Below.drew) | ((with_reducible refine Below.setCell ?_ ?_ _); rotate_left; focus (first | (simp; done) | (simp; omega) | omega)) | ((with_reducible refine Below.alloc ?_ ?_ _); rotate_left; focus (first | (simp; done) | (simp; omega) | omega))))).mono X2.bel.size))).mono ?_; rintro e wa ⟨⟨ga1, ga2, ga3, rfl, O⟩, hb⟩; have hBA : Below w2.heap.size w2 wa := (show Below w2.heap.size w2 _ by (repeat (first | (with_reducible exact Below.refl _ _) | (with_reducible assumption) | (with_reducible apply below_drewN) | (with_reducible apply Below.drew) | ((with_reducible refine Below.setCell ?_ ?_ _); rotate_left; focus (first | (simp; done) | (simp; omega) | omega)) | ((with_reducible refine Below.alloc ?_ ?_ _); rotate_left; focus (first | (simp; done) | (simp; omega) | omega))))).trans (hb.mono (by first | (simp; done) | (simp; omega) | omega)); have HOA : Hid (MadeSto wa _ ga1 ga2 ga3 a) := O; clear hb O) | (go_at_call 10; refine (HTb.out _ (X2.bel.trans ((show Below w2.heap.size w2 _ by (repeat (first | (with_reducible exact Below.refl _ _) | (with_reducible assumption) | (with_reducible apply below_drewN) | (with_reducible apply Below.drew) | ((with_reducible refine Below.setCell ?_ ?_ _); rotate_left; focus (first | (simp; done) | (simp; omega) | omega)) | ((with_reducible refine Below.alloc ?_ ?_ _); rotate_left; focus (first | (simp; done) | (simp; omega) | omega))))).mono X2.bel.size))).mono ?_; rintro e wb ⟨⟨gb1, gb2, gb3, rfl, O⟩, hb⟩; have hAB : Below wa.heap.size wa wb := (show Below wa.heap.size wa _ by (repeat (first | (with_reducible exact Below.refl _ _) | (with_reducible assumption) | (with_reducible apply below_drewN) | (with_reducible apply Below.drew) | ((with_reducible refine Below.setCell ?_ ?_ _); rotate_left; focus (first | (simp; done) | (simp; omega) | omega)) | ((with_reducible refine Below.alloc ?_ ?_ _); rotate_left; focus (first | (simp; done) | (simp; omega) | omega))))).trans (hb.mono (by first | (simp; done) | (simp; omega) | omega)); have hBB : Below w2.heap.size w2 wb := hBA.trans (hAB.mono hBA.size); have HOA2 : Hid (MadeSto wb _ ga1 ga2 ga3 a) := HOA.out.next hAB; have HOB : Hid (MadeSto wb _ gb1 gb2 gb3 b) := O; clear hb O) | (go_at_call 26; refine (HS.out _ _ _ _ _ _ _ _ _ HOA2.out HOB.out).mono ?_; rintro e wc ⟨rfl, hb⟩; have hBC : Below w2.heap.size w2 wc := hBB.trans (hb.mono hBB.size); clear hb))
  all_goals
    have X3 := X2.step hBC
    clear hBC hBB hBA hAB HOA HOA2 HOB X2 x0 x1 x2 x3 y0 y1 y2 y3 hb0
    obtain ⟨x0, x1, x2, x3, y0, y1, y2, y3⟩ := keepS2 X3 (Below.refl _ _)
    go_wp2_with fail
    refine (HTa.out _ X3.bel).mono ?_
    rintro e w4 ⟨⟨gc, gt, gd, rfl, O⟩, hb⟩
    have X4 := X3.step hb
    have bA : Below w4.heap.size w4 (w4.alloc (.cells #[.slice (some ⟨gc, 0, none⟩) a.cs.length a.cs.length, .slice (some ⟨gt, 0, none⟩) a.ts.length a.ts.length, .slice (some ⟨gd, 0, none⟩) a.ds.length a.ds.length, .int .i64 a.clk] 33)) := (Below.refl _ _).alloc (Nat.le_refl _) _
    have X5 := X4.step bA
    have Ma5 : Hid (MadeSto _ _ _ _ _ _) := O.next bA
    have ya5 : (w4.alloc (.cells #[.slice (some ⟨gc, 0, none⟩) a.cs.length a.cs.length, .slice (some ⟨gt, 0, none⟩) a.ts.length a.ts.length, .slice (some ⟨gd, 0, none⟩) a.ds.length a.ds.length, .int .i64 a.clk] 33)).heap[w4.heap.size]? = _ := heap_alloc_new w4 _
    have ma5 : w4.heap.size < (w4.alloc (.cells #[.slice (some ⟨gc, 0, none⟩) a.cs.length a.cs.length, .slice (some ⟨gt, 0, none⟩) a.ts.length a.ts.length, .slice (some ⟨gd, 0, none⟩) a.ds.length a.ds.length, .int .i64 a.clk] 33)).heap.size := by simp
    clear hb X3 X4 O bA x0 x1 x2 x3 y0 y1 y2 y3
    obtain ⟨x0, x1, x2, x3, y0, y1, y2, y3⟩ := keepS2 X5 (Below.refl _ _)
    go_wp2_with fail
    generalize w4.alloc (.cells #[.slice (some ⟨gc, 0, none⟩) a.cs.length a.cs.length, .slice (some ⟨gt, 0, none⟩) a.ts.length a.ts.length, .slice (some ⟨gd, 0, none⟩) a.ds.length a.ds.length, .int .i64 a.clk] 33) = w5 at X5 Ma5 ya5 ma5 x0 x1 x2 x3 y0 y1 y2 y3 ⊢
    obtain ⟨ba, hba⟩ : ∃ k, k = w4.heap.size := ⟨_, rfl⟩
    rw [← hba] at ya5 ma5 ⊢
    clear hba
    refine (HTb.out _ X5.bel).mono ?_
    rintro e w6 ⟨⟨hc, ht, hd, rfl, O⟩, hb⟩
    have X6 := X5.step hb
    have ya6 := (hb.block _ ma5).trans ya5
    have ma6 := Nat.lt_of_lt_of_le ma5 hb.size
    have Ma6 : Hid (MadeSto _ _ _ _ _ _) := Ma5.out.next hb
    have bA : Below w6.heap.size w6 (w6.alloc (.cells #[.slice (some ⟨hc, 0, none⟩) b.cs.length b.cs.length, .slice (some ⟨ht, 0, none⟩) b.ts.length b.ts.length, .slice (some ⟨hd, 0, none⟩) b.ds.length b.ds.length, .int .i64 b.clk] 33)) := (Below.refl _ _).alloc (Nat.le_refl _) _
    have X7 := X6.step bA
    have ya7 := (bA.block _ ma6).trans ya6
    have ma7 := Nat.lt_of_lt_of_le ma6 bA.size
    have Ma7 : Hid (MadeSto _ _ _ _ _ _) := Ma6.out.next bA
    have Mb7 : Hid (MadeSto _ _ _ _ _ _) := O.next bA
    have yb7 : (w6.alloc (.cells #[.slice (some ⟨hc, 0, none⟩) b.cs.length b.cs.length, .slice (some ⟨ht, 0, none⟩) b.ts.length b.ts.length, .slice (some ⟨hd, 0, none⟩) b.ds.length b.ds.length, .int .i64 b.clk] 33)).heap[w6.heap.size]? = _ := heap_alloc_new w6 _
    have mb7 : w6.heap.size < (w6.alloc (.cells #[.slice (some ⟨hc, 0, none⟩) b.cs.length b.cs.length, .slice (some ⟨ht, 0, none⟩) b.ts.length b.ts.length, .slice (some ⟨hd, 0, none⟩) b.ds.length b.ds.length, .int .i64 b.clk] 33)).heap.size := by simp
    clear hb X5 X6 O bA x0 x1 x2 x3 y0 y1 y2 y3 ya5 ya6 ma5 ma6 Ma5 Ma6
    obtain ⟨u0, u1, u2, u3⟩ := fourTn ya7
    obtain ⟨v0, v1, v2, v3⟩ := fourTn yb7
    go_wp2_with fail
    generalize w6.alloc (.cells #[.slice (some ⟨hc, 0, none⟩) b.cs.length b.cs.length, .slice (some ⟨ht, 0, none⟩) b.ts.length b.ts.length, .slice (some ⟨hd, 0, none⟩) b.ds.length b.ds.length, .int .i64 b.clk] 33) = w7 at X7 Ma7 Mb7 ya7 yb7 ma7 mb7 u0 u1 u2 u3 v0 v1 v2 v3 ⊢
    obtain ⟨bb, hbb⟩ : ∃ bb, bb = w6.heap.size := ⟨_, rfl⟩
    rw [← hbb] at yb7 mb7 v0 v1 v2 v3 ⊢
    clear hbb
    refine (HI.out _ _ _ _ _ _ _ _ _ Ma7.out Mb7.out).mono ?_
    rintro e w8 ⟨rfl, hb⟩
    have X8 := X7.step hb
    have Ma8 : Hid (MadeSto _ _ _ _ _ _) := Ma7.out.next hb
    have Mb8 : Hid (MadeSto _ _ _ _ _ _) := Mb7.out.next hb
    have ya8 := (hb.block _ ma7).trans ya7
    have yb8 := (hb.block _ mb7).trans yb7
    have ma8 := Nat.lt_of_lt_of_le ma7 hb.size
    have mb8 := Nat.lt_of_lt_of_le mb7 hb.size
    clear hb X7 Ma7 Mb7 ya7 yb7 ma7 mb7 u0 u1 u2 u3 v0 v1 v2 v3
    have hpp : (P1 != P1) = false := by cases P1 <;> rfl
    go_wp2_with fail
    go_region_held3 (fun w0 => w0.cell? ⟨w.heap.size, 0, none⟩ = some (.slice p1 a.cs.length c1) ∧ w0.cell? ⟨w.heap.size, 1, none⟩ = some (.slice p2 a.ts.length c2) ∧ w0.cell? ⟨w.heap.size, 2, none⟩ = some (.slice p3 a.ds.length c3) ∧ w0.cell? ⟨w.heap.size, 3, none⟩ = some (.int .i64 a.clk) ∧ w0.cell? ⟨w.heap.size + 1, 0, none⟩ = some (.slice q1 b.cs.length d1) ∧ w0.cell? ⟨w.heap.size + 1, 1, none⟩ = some (.slice q2 b.ts.length d2) ∧ w0.cell? ⟨w.heap.size + 1, 2, none⟩ = some (.slice q3 b.ds.length d3) ∧ w0.cell? ⟨w.heap.size + 1, 3, none⟩ = some (.int .i64 b.clk) ∧ w0.cell? ⟨ba, 0, none⟩ = some (.slice (some ⟨gc, 0, none⟩) a.cs.length a.cs.length) ∧ w0.cell? ⟨ba, 1, none⟩ = some (.slice (some ⟨gt, 0, none⟩) a.ts.length a.ts.length) ∧ w0.cell? ⟨ba, 2, none⟩ = some (.slice (some ⟨gd, 0, none⟩) a.ds.length a.ds.length) ∧ w0.cell? ⟨ba, 3, none⟩ = some (.int .i64 a.clk) ∧ w0.cell? ⟨bb, 0, none⟩ = some (.slice (some ⟨hc, 0, none⟩) b.cs.length b.cs.length) ∧ w0.cell? ⟨bb, 1, none⟩ = some (.slice (some ⟨ht, 0, none⟩) b.ts.length b.ts.length) ∧ w0.cell? ⟨bb, 2, none⟩ = some (.slice (some ⟨hd, 0, none⟩) b.ds.length b.ds.length) ∧ w0.cell? ⟨bb, 3, none⟩ = some (.int .i64 b.clk)) ((refine keepS4 X8 ma8 mb8 ya8 yb8 ?_; (repeat (first | (with_reducible exact Below.refl _ _) | (with_reducible assumption) | (with_reducible apply below_drewN) | (with_reducible apply Below.drew) | ((with_reducible refine Below.setCell ?_ ?_ _); rotate_left; focus (first | (simp; done) | (simp; omega) | omega)) | ((with_reducible refine Below.alloc ?_ ?_ _); rotate_left; focus (first | (simp; done) | (simp; omega) | omega)))))) (first | (go_at_call 10; refine (HTa.out _ (X8.bel.trans ((show Below w8.heap.size w8 _ by (repeat (first | (with_reducible exact Below.refl _ _) | (with_reducible assumption) | (with_reducible apply below_drewN) | (with_reducible apply Below.drew) | ((with_reducible refine Below.setCell ?_ ?_ _); rotate_left; focus (first | (simp; done) | (simp; omega) | omega)) | ((with_reducible refine Below.alloc ?_ ?_ _); rotate_left; focus (first | (simp; done) | (simp; omega) | omega))))).mono X8.bel.size))).mono ?_; rintro e v9 ⟨⟨gx9, gy9, gz9, rfl, O⟩, hb⟩; have hC9 : Below w8.heap.size w8 v9 := (show Below w8.heap.size w8 _ by (repeat (first | (with_reducible exact Below.refl _ _) | (with_reducible assumption) | (with_reducible apply below_drewN) | (with_reducible apply Below.drew) | ((with_reducible refine Below.setCell ?_ ?_ _); rotate_left; focus (first | (simp; done) | (simp; omega) | omega)) | ((with_reducible refine Below.alloc ?_ ?_ _); rotate_left; focus (first | (simp; done) | (simp; omega) | omega))))).trans (hb.mono (by first | (simp; done) | (simp; omega) | omega)); have HO9 : Hid (MadeSto v9 _ gx9 gy9 gz9 a) := O; clear hb O) | (go_at_call 12; refine (eqStore_same _ _ _ _ _ _ _ _ a _ (Ma8.out.next hC9) HO9.out HZa.out).mono ?_; rintro e u9 ⟨rfl, hb⟩; have hD9 : Below w8.heap.size w8 u9 := hC9.trans (hb.mono hC9.size); clear hb))
    have X10 := X8.step hD9
    have Ma10 : Hid (MadeSto _ _ _ _ _ _) := Ma8.out.next hD9
    have Mb10 : Hid (MadeSto _ _ _ _ _ _) := Mb8.out.next hD9
    have ya10 := (hD9.block _ ma8).trans ya8
    have yb10 := (hD9.block _ mb8).trans yb8
    have ma10 := Nat.lt_of_lt_of_le ma8 hD9.size
    have mb10 := Nat.lt_of_lt_of_le mb8 hD9.size
    clear X8 Ma8 Mb8 ya8 yb8 ma8 mb8 hD9 hC9 HO9
    generalize hU : u9 = w10 at X10 Ma10 Mb10 ya10 yb10 ma10 mb10 ⊢
    clear hU
    go_wp2_with fail
    go_region_held3 (fun w0 => w0.cell? ⟨w.heap.size, 0, none⟩ = some (.slice p1 a.cs.length c1) ∧ w0.cell? ⟨w.heap.size, 1, none⟩ = some (.slice p2 a.ts.length c2) ∧ w0.cell? ⟨w.heap.size, 2, none⟩ = some (.slice p3 a.ds.length c3) ∧ w0.cell? ⟨w.heap.size, 3, none⟩ = some (.int .i64 a.clk) ∧ w0.cell? ⟨w.heap.size + 1, 0, none⟩ = some (.slice q1 b.cs.length d1) ∧ w0.cell? ⟨w.heap.size + 1, 1, none⟩ = some (.slice q2 b.ts.length d2) ∧ w0.cell? ⟨w.heap.size + 1, 2, none⟩ = some (.slice q3 b.ds.length d3) ∧ w0.cell? ⟨w.heap.size + 1, 3, none⟩ = some (.int .i64 b.clk) ∧ w0.cell? ⟨ba, 0, none⟩ = some (.slice (some ⟨gc, 0, none⟩) a.cs.length a.cs.length) ∧ w0.cell? ⟨ba, 1, none⟩ = some (.slice (some ⟨gt, 0, none⟩) a.ts.length a.ts.length) ∧ w0.cell? ⟨ba, 2, none⟩ = some (.slice (some ⟨gd, 0, none⟩) a.ds.length a.ds.length) ∧ w0.cell? ⟨ba, 3, none⟩ = some (.int .i64 a.clk) ∧ w0.cell? ⟨bb, 0, none⟩ = some (.slice (some ⟨hc, 0, none⟩) b.cs.length b.cs.length) ∧ w0.cell? ⟨bb, 1, none⟩ = some (.slice (some ⟨ht, 0, none⟩) b.ts.length b.ts.length) ∧ w0.cell? ⟨bb, 2, none⟩ = some (.slice (some ⟨hd, 0, none⟩) b.ds.length b.ds.length) ∧ w0.cell? ⟨bb, 3, none⟩ = some (.int .i64 b.clk)) ((refine keepS4 X10 ma10 mb10 ya10 yb10 ?_; (repeat (first | (with_reducible exact Below.refl _ _) | (with_reducible assumption) | (with_reducible apply below_drewN) | (with_reducible apply Below.drew) | ((with_reducible refine Below.setCell ?_ ?_ _); rotate_left; focus (first | (simp; done) | (simp; omega) | omega)) | ((with_reducible refine Below.alloc ?_ ?_ _); rotate_left; focus (first | (simp; done) | (simp; omega) | omega)))))) (first | (go_at_call 10; refine (HTb.out _ (X10.bel.trans ((show Below w10.heap.size w10 _ by (repeat (first | (with_reducible exact Below.refl _ _) | (with_reducible assumption) | (with_reducible apply below_drewN) | (with_reducible apply Below.drew) | ((with_reducible refine Below.setCell ?_ ?_ _); rotate_left; focus (first | (simp; done) | (simp; omega) | omega)) | ((with_reducible refine Below.alloc ?_ ?_ _); rotate_left; focus (first | (simp; done) | (simp; omega) | omega))))).mono X10.bel.size))).mono ?_; rintro e v11 ⟨⟨gx11, gy11, gz11, rfl, O⟩, hb⟩; have hC11 : Below w10.heap.size w10 v11 := (show Below w10.heap.size w10 _ by (repeat (first | (with_reducible exact Below.refl _ _) | (with_reducible assumption) | (with_reducible apply below_drewN) | (with_reducible apply Below.drew) | ((with_reducible refine Below.setCell ?_ ?_ _); rotate_left; focus (first | (simp; done) | (simp; omega) | omega)) | ((with_reducible refine Below.alloc ?_ ?_ _); rotate_left; focus (first | (simp; done) | (simp; omega) | omega))))).trans (hb.mono (by first | (simp; done) | (simp; omega) | omega)); have HO11 : Hid (MadeSto v11 _ gx11 gy11 gz11 b) := O; clear hb O) | (go_at_call 12; refine (eqStore_same _ _ _ _ _ _ _ _ b _ (Mb10.out.next hC11) HO11.out HZb.out).mono ?_; rintro e u11 ⟨rfl, hb⟩; have hD11 : Below w10.heap.size w10 u11 := hC11.trans (hb.mono hC11.size); clear hb))
    have hbw := (X10.step hD11).bel
    go_wp2_with fail
    go_ret
    exact ⟨rfl, hbw⟩


end Go.Proofs.YtpfbepbmiillbaaGreatDoor.SameDcf

/- The law's own walk. -/
namespace Go.Proofs.YtpfbepbmiillbaaGreatDoor
open Go.ChangeShapes Go.WideShapes Go.ChangeAt Go.RowKit Go.Joins
open Go.ChangeMaps (open_string shut_string)
set_option linter.unusedVariables false
namespace SameDcf



end SameDcf
end Go.Proofs.YtpfbepbmiillbaaGreatDoor

/- The law's walk, lifted to the row. -/
namespace Go.Proofs.YtpfbepbmiillbaaGreatDoor
open Go.ChangeShapes Go.WideShapes Go.ChangeAt Go.RowKit Go.Joins
open Go.ChangeMaps (open_string shut_string)
set_option linter.unusedVariables false
namespace SameDcf
theorem own : ownKnob Tryz.prog.godebug = none := by kernel_rfl
theorem laidOut : laidOutB Tryz.prog = true := by kernel_rfl

set_option maxRecDepth 100000 in
theorem lifted (os : Os) (started : os.Started) (H : Type) (enc : TypeId × Value → H) :
    ReturnsInHanded {} Tryz.checked os 7 .any (fun w args => (Rows.fnExactSameDocsSpec.pre enc Tryz.prog Tryz.f7 Rows.fnExactSameDocsRow.domain false w args ∧ laidMetH Tryz.prog Rows.fnExactSameDocsRow.laid w) ∧ sizedMet enc Tryz.prog Tryz.f7 (OpenSpec.ofChange Rows.fnExactSameDocsSpec) false w args)
      (Rows.fnExactSameDocsSpec.post enc Tryz.prog Tryz.f7 false true false false) := by
  refine returnsInHanded_of_change_and (C := Tryz.checked) (X := fun w _ => laidMetH Tryz.prog Rows.fnExactSameDocsRow.laid w) (fun _ _ _ hh h => h.of_heap hh) own started (by kernel_rfl) Tryz.func7
    (ChangeSpec.witness_shaped (enc := enc) (C := Tryz.checked) (os := os) (X := fun w _ => laidMetH Tryz.prog Rows.fnExactSameDocsRow.laid w) false (World.laidAll Tryz.prog os Rows.fnExactSameDocsRow.laid) #[.agg #[.slice none 0 0, .slice none 0 0, .slice none 0 0, .int .i64 0], .agg #[.slice none 0 0, .slice none 0 0, .slice none 0 0, .int .i64 0]] 8 (World.laidAll_os _ _ _)
      (World.shaped_of_ZipB (by kernel_rfl) (by kernel_rfl)) (by kernel_rfl) (by kernel_rfl) (by kernel_rfl)
      (by rw [MakeChecks.laidMetH_plain _ _ _ (by kernel_rfl)]; exact laidMet_laidAll _ (by kernel_rfl) (by kernel_rfl))) ?_
  intro W base args ds gs before hval0 hW hcnd _ hL _
  have hval : ∀ (j : Nat) t v, Tryz.f7.params[j]? = some t → args[j]? = some v → Value.okWide Tryz.prog W .any base t v := hval0
  have hW' := hW
  obtain ⟨p, q, hA0, hV, rfl, hfz, hnd⟩ := hW
  have hA : DataW.TrodAll enc Tryz.prog W 0 (fun _ => true) true Tryz.f7.params.toList args.toList ds p := hA0
  rw [Tryz.params7] at hA hval
  obtain ⟨v0, vs0, d0, ds0, p0, q0, hargs, rfl, rfl, h0, r0⟩ := trodAll_cons hA
  obtain ⟨v1, vs1, d1, ds1, p1, q1, rfl, rfl, rfl, h1, r1⟩ := trodAll_cons r0
  obtain ⟨rfl, rfl, rfl⟩ := trodAll_nil r1
  obtain rfl : args = #[v0, v1] := by cases args; simp_all
  obtain ⟨rfl, rfl⟩ := trodVars_none hV
  have k0 := h0
  have lt0 : ∀ x ∈ p0, x.block < W.heap.size := by obtain ⟨m, hm⟩ := k0; exact DataW.trod_lt m _ _ _ hm
  obtain ⟨so0, sp0, sq0, st0, cp0, cq0, ct0, rfl, hm0, i0⟩ := Tx.open_store (hval 0 26 v0 rfl rfl) h0
  have k1 := h1
  have lt1 : ∀ x ∈ p1, x.block < W.heap.size := by obtain ⟨m, hm⟩ := k1; exact DataW.trod_lt m _ _ _ hm
  obtain ⟨so1, sp1, sq1, st1, cp1, cq1, ct1, rfl, hm1, i1⟩ := Tx.open_store (hval 1 26 v1 rfl rfl) h1
  clear hA0 hval0
  refine (walk sp0 sq0 st0 cp0 cq0 ct0 so0 hm0 sp1 sq1 st1 cp1 cq1 ct1 so1 hm1 W i0 i1).mono fun e W' ⟨he, bel⟩ => ?_
  subst he
  exact ⟨_, rfl, _, _, _, [], _, [], hW', trodAll_mk1 (shut_bool Tryz.underlying4 _), (trodAll_cons_mk (Below.trod laidOut (by kernel_rfl) (of_decide_eq_true (by kernel_rfl)) k0 bel lt0) (trodAll_cons_mk (Below.trod laidOut (by kernel_rfl) (of_decide_eq_true (by kernel_rfl)) k1 bel lt1) trodAll_mk0)), rfl, bel.frame _, fun h => by cases h⟩
end SameDcf
end Go.Proofs.YtpfbepbmiillbaaGreatDoor
