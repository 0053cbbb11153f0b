/- The oldest snapshot of a store: both answers, and the law's own walk. -/
import Derived.Test.YtpfbepbmiillbaaGreatDoorDnsOQ
import Derived.Test.YtpfbepbmiillbaaGreatDoorTrMQ
import Derived.Test.YtpfbepbmiillbaaGreatDoorDnsIQ
import Derived.OwnWalkIn
import Derived.Lib.Hide
import Derived.Test.YtpfbepbmiillbaaGreatDoorSzNQ
import Derived.Test.YtpfbepbmiillbaaGreatDoorRows
import Derived.Test.YtpfbepbmiillbaaGreatDoorTie
import Derived.Test.YtpfbepbmiillbaaGreatDoorCards
import Derived.LaidMore
import Derived.Lay
import Derived.Stop.Joined
import Derived.SevenTiedAt
import Derived.ProofKit
import Derived.OpenShut
import Derived.ShutString
import Derived.ChangeOld
import Derived.Below
import Derived.Lib.SmallJoins
namespace Go.Proofs.YtpfbepbmiillbaaGreatDoor.Tx
open Go.RowKit Tr Co Rea Ce
set_option linter.unusedVariables false

def mn2 (a b : Int) : Int := min a b
def olX (a : Int) (l : List Tn) : Int := l.foldl (fun a t => mn2 a t.sp) a
theorem olX_step (a : Int) (l : List Tn) (k : Nat) (h : k < l.length) : olX a (l.take (k + 1)) = mn2 (olX a (l.take k)) l[k].sp := by
  unfold olX; rw [List.take_succ_eq_append_getElem h, List.foldl_append]; rfl
def oldR (s : Sto) : Int × Int := if stoB s = true then (olX s.clk s.ts, 0) else (0, 1)

set_option maxRecDepth 4000 in
set_option maxHeartbeats 2000000 in
theorem l11Oldest_any (bs gc gt gd cc ct cd : Nat) (s : Sto) (w : World) (hm : MadeSto w bs gc gt gd s) (hz : SzSto s) :
    Calls Tryz.prog 46 #[.agg #[.slice (some ⟨gc, 0, none⟩) s.cs.length cc, .slice (some ⟨gt, 0, none⟩) s.ts.length ct, .slice (some ⟨gd, 0, none⟩) s.ds.length cd, .int .i64 s.clk]] w fun e w' => e = .returned (.int .i64 (olX s.clk s.ts)) ∧ Below w.heap.size w w' := by
  have X0 := BxTn.start w (.slice (some ⟨gc, 0, none⟩) s.cs.length cc) (.slice (some ⟨gt, 0, none⟩) s.ts.length ct) (.slice (some ⟨gd, 0, none⟩) s.ds.length cd) (.int .i64 s.clk) 33
  have HM : Hid (MadeSto _ _ _ _ _ _) := hm.next X0.bel
  have hl := hz.t0
  clear hm hz
  obtain ⟨hb0, xl, k0, k1, k2, k3⟩ := id X0
  go_enter Tryz.func46, Tryz.ntmps46
  go_wp2_with fail
  generalize w.alloc (.cells #[.slice (some ⟨gc, 0, none⟩) s.cs.length cc, .slice (some ⟨gt, 0, none⟩) s.ts.length ct, .slice (some ⟨gd, 0, none⟩) s.ds.length cd, .int .i64 s.clk] 33) = W0 at X0 HM hb0 xl k0 k1 k2 k3 ⊢
  clear k0 k1 k2 k3 xl
  go_loopw [4, 3] (fun i o wr => ∃ k : Nat, k ≤ s.ts.length ∧ i = .int .i64 k ∧ o = .int .i64 (olX s.clk (s.ts.take k)) ∧ Below W0.heap.size W0 wr) (fun i _ _ => s.ts.length - (intOf i).toNat)
  case atStart => exact ⟨0, Nat.zero_le _, rfl, rfl, Below.refl _ _⟩
  case round =>
    obtain ⟨k, hk, rfl, rfl, hbl⟩ := hrel
    obtain ⟨_, xl, k0, k1, k2, k3⟩ := X0.step hbl
    by_cases hlt : k < s.ts.length
    · have hlt2 : (k : Int) < (s.ts.length : Int) := by omega
      have R1 := HM.out.t.next hbl
      obtain ⟨gr, gw, ⟨x0, x1, x2, x3⟩, _, _, _⟩ := R1.cells k hlt
      have hg1 := R1.lt
      have hst := olX_step s.clk s.ts k hlt
      obtain ⟨x, hx⟩ : ∃ x, x = s.ts[k] := ⟨_, rfl⟩
      rw [← hx] at x0 x1 x2 x3 hst
      have HST : Hid (_ = _) := hst
      clear R1 hx hst
      go_wp2_with fail
      go_roundw
      case rel => exact ⟨k + 1, by omega, by go_num, by rw [HST.out]; rfl, hbl⟩
      case measure => simp [intOf]; omega
    · have hlt2 : ¬ (k : Int) < (s.ts.length : Int) := by omega
      have hal : olX s.clk (s.ts.take k) = olX s.clk s.ts := by rw [List.take_of_length_le (by omega)]
      rw [hal]
      have hbw := hb0.trans (hbl.mono hb0.size)
      clear hal
      go_wp2_with fail
      go_ret
      exact ⟨rfl, hbw⟩

set_option maxRecDepth 4000 in
set_option maxHeartbeats 2000000 in
theorem oldestM_any (b bs gc gt gd cc ct cd : Nat) (s : Sto) (w : World) (hm : MadeSto w bs gc gt gd s) (hz : SzSto s) (hl0 : b < w.heap.size) (c1 : w.cell? ⟨b, 1, none⟩ = some (.slice (some ⟨gt, 0, none⟩) s.ts.length ct)) (c3 : w.cell? ⟨b, 3, none⟩ = some (.int .i64 s.clk)) :
    Calls Tryz.prog 47 #[.pointer (some ⟨b, 0, none⟩)] w fun e w' => e = .returned (.int .i64 (olX s.clk s.ts)) ∧ Below w.heap.size w w' := by
  have HM : Hid (MadeSto _ _ _ _ _ _) := hm
  have hl := hz.t0
  clear hm hz
  have hb0 : Below w.heap.size w w := Below.refl _ _
  go_enter Tryz.func47, Tryz.ntmps47
  go_wp2_with fail
  clear c1 c3 hl0
  go_loopw [15, 3] (fun i o wr => ∃ k : Nat, k ≤ s.ts.length ∧ i = .int .i64 k ∧ o = .int .i64 (olX s.clk (s.ts.take k)) ∧ Below w.heap.size w wr) (fun i _ _ => s.ts.length - (intOf i).toNat)
  case atStart => exact ⟨0, Nat.zero_le _, rfl, rfl, Below.refl _ _⟩
  case round =>
    obtain ⟨k, hk, rfl, rfl, hbl⟩ := hrel
    by_cases hlt : k < s.ts.length
    · have hlt2 : (k : Int) < (s.ts.length : Int) := by omega
      have R1 := HM.out.t.next hbl
      obtain ⟨gr, gw, ⟨x0, x1, x2, x3⟩, _, _, _⟩ := R1.cells k hlt
      have hg1 := R1.lt
      have hst := olX_step s.clk s.ts k hlt
      obtain ⟨x, hx⟩ : ∃ x, x = s.ts[k] := ⟨_, rfl⟩
      rw [← hx] at x0 x1 x2 x3 hst
      have HST : Hid (_ = _) := hst
      clear R1 hx hst
      have hbA : Below wr.heap.size wr (wr.alloc (.cells #[.int .i64 x.sn, .int .i64 x.sp, .slice (some ⟨gr, 0, none⟩) x.rs.length x.rs.length, .slice (some ⟨gw, 0, none⟩) x.cs.length x.cs.length] 75)) := (Below.refl _ _).alloc (Nat.le_refl _) _
      have hbB := hbl.trans (hbA.mono hbl.size)
      clear hbA
      go_wp2_with fail
      go_roundw
      case rel => exact ⟨k + 1, by omega, by go_num, by rw [HST.out]; rfl, hbB⟩
      case measure => simp [intOf]; omega
    · have hlt2 : ¬ (k : Int) < (s.ts.length : Int) := by omega
      have hal : olX s.clk (s.ts.take k) = olX s.clk s.ts := by rw [List.take_of_length_le (by omega)]
      rw [hal]
      have hbw := hb0.trans (hbl.mono hb0.size)
      clear hal
      go_wp2_with fail
      go_ret
      exact ⟨rfl, hbw⟩

set_option maxRecDepth 4000 in
set_option maxHeartbeats 2000000 in
theorem specOldest_any (bs gc gt gd cc ct cd : Nat) (s : Sto) (w : World) (hm : MadeSto w bs gc gt gd s) (hz : SzSto s) :
    Calls Tryz.prog 13 #[.agg #[.slice (some ⟨gc, 0, none⟩) s.cs.length cc, .slice (some ⟨gt, 0, none⟩) s.ts.length ct, .slice (some ⟨gd, 0, none⟩) s.ds.length cd, .int .i64 s.clk]] w fun e w' => e = .returned (.tuple #[.int .i64 (oldR s).1, .int .i64 (oldR s).2]) ∧ Below w.heap.size w w' := by
  have X0 := BxTn.start w (.slice (some ⟨gc, 0, none⟩) s.cs.length cc) (.slice (some ⟨gt, 0, none⟩) s.ts.length ct) (.slice (some ⟨gd, 0, none⟩) s.ds.length cd) (.int .i64 s.clk) 33
  have HS : Hid (Calls _ _ _ _ _) := specStoB_any bs gc gt gd cc ct cd s _ (hm.next X0.bel) hz
  have HO : Hid (∀ W : World, Below w.heap.size w W → Calls _ _ _ W _) := fun W hW => l11Oldest_any bs gc gt gd cc ct cd s W (hm.next hW) hz
  clear hm hz
  obtain ⟨B, hB⟩ : ∃ B, B = stoB s := ⟨_, rfl⟩
  have HR : Hid (oldR s = if B = true then (olX s.clk s.ts, 0) else (0, 1)) := by rw [hB]; exact rfl
  rw [← hB] at HS
  clear hB
  obtain ⟨O, hO⟩ : ∃ O, O = olX s.clk s.ts := ⟨_, rfl⟩
  rw [← hO] at HO HR
  clear hO
  obtain ⟨P, hP⟩ : ∃ P, P = oldR s := ⟨_, rfl⟩
  rw [← hP] at HR ⊢
  clear hP
  go_enter Tryz.func13, Tryz.ntmps13
  obtain ⟨_, xl, k0, k1, k2, k3⟩ := id X0
  go_wp2_with fail
  refine HS.out.mono ?_
  rintro e w1 ⟨rfl, hb⟩
  have X1 := X0.step hb
  clear hb X0 HS xl k0 k1 k2 k3
  obtain ⟨_, xl, k0, k1, k2, k3⟩ := id X1
  cases B
  · have HF : Hid (P = (0, 1)) := HR.out
    clear HR
    have hbw := X1.bel
    go_wp2_with fail
    go_ret2
    exact ⟨by rw [HF.out]; rfl, hbw⟩
  · have HF : Hid (P = (O, 0)) := HR.out
    clear HR
    go_wp2_with fail
    refine (HO.out _ X1.bel).mono ?_
    rintro e w2 ⟨rfl, hb⟩
    have hbw := (X1.step hb).bel
    clear hb
    go_wp2_with fail
    go_ret2
    exact ⟨by rw [HF.out]; rfl, hbw⟩

set_option maxRecDepth 4000 in
set_option maxHeartbeats 2000000 in
theorem implOldest_any (bs gc gt gd cc ct cd : Nat) (s : Sto) (w : World) (hm : MadeSto w bs gc gt gd s) (hz : SzSto s) :
    Calls Tryz.prog 14 #[.agg #[.slice (some ⟨gc, 0, none⟩) s.cs.length cc, .slice (some ⟨gt, 0, none⟩) s.ts.length ct, .slice (some ⟨gd, 0, none⟩) s.ds.length cd, .int .i64 s.clk]] w fun e w' => e = .returned (.tuple #[.int .i64 (oldR s).1, .int .i64 (oldR s).2]) ∧ Below w.heap.size w w' := by
  have X0 := BxTn.start w (.slice (some ⟨gc, 0, none⟩) s.cs.length cc) (.slice (some ⟨gt, 0, none⟩) s.ts.length ct) (.slice (some ⟨gd, 0, none⟩) s.ds.length cd) (.int .i64 s.clk) 33
  have HS : Hid (Calls _ _ _ _ _) := storeOK_any bs gc gt gd cc ct cd s _ (hm.next X0.bel) hz
  have HO : Hid (∀ W : World, BxTn w W (.slice (some ⟨gc, 0, none⟩) s.cs.length cc) (.slice (some ⟨gt, 0, none⟩) s.ts.length ct) (.slice (some ⟨gd, 0, none⟩) s.ds.length cd) (.int .i64 s.clk) → Calls _ _ _ W _) := fun W hW => oldestM_any w.heap.size bs gc gt gd cc ct cd s W (hm.next hW.bel) hz hW.lt hW.c1 hW.c3
  clear hm hz
  obtain ⟨B, hB⟩ : ∃ B, B = stoB s := ⟨_, rfl⟩
  have HR : Hid (oldR s = if B = true then (olX s.clk s.ts, 0) else (0, 1)) := by rw [hB]; exact rfl
  rw [← hB] at HS
  clear hB
  obtain ⟨O, hO⟩ : ∃ O, O = olX s.clk s.ts := ⟨_, rfl⟩
  rw [← hO] at HO HR
  clear hO
  obtain ⟨P, hP⟩ : ∃ P, P = oldR s := ⟨_, rfl⟩
  rw [← hP] at HR ⊢
  clear hP
  go_enter Tryz.func14, Tryz.ntmps14
  obtain ⟨_, xl, k0, k1, k2, k3⟩ := id X0
  go_wp2_with fail
  refine HS.out.mono ?_
  rintro e w1 ⟨rfl, hb⟩
  have X1 := X0.step hb
  clear hb X0 HS xl k0 k1 k2 k3
  cases B
  · have HF : Hid (P = (0, 1)) := HR.out
    clear HR
    have hbw := X1.bel
    go_wp2_with fail
    go_ret2
    exact ⟨by rw [HF.out]; rfl, hbw⟩
  · have HF : Hid (P = (O, 0)) := HR.out
    clear HR
    go_wp2_with fail
    refine (HO.out _ X1).mono ?_
    rintro e w2 ⟨rfl, hb⟩
    have hbw := (X1.step hb).bel
    clear hb
    go_wp2_with fail
    go_ret2
    exact ⟨by rw [HF.out]; rfl, hbw⟩

end Go.Proofs.YtpfbepbmiillbaaGreatDoor.Tx
namespace Go.Proofs.YtpfbepbmiillbaaGreatDoor.OldSnapf
open Go.RowKit Tr Co Rea Ce Tx
set_option linter.unusedVariables false

set_option maxRecDepth 8000 in
set_option maxHeartbeats 4000000 in
theorem walk (p1 p2 p3 : Option Addr) (c1 c2 c3 : Nat) (s : Sto) (hm : MaxSto s) (w : World) (hin : InSto w p1 p2 p3 s) :
    Calls Tryz.prog 4 #[.agg #[.slice p1 s.cs.length c1, .slice p2 s.ts.length c2, .slice p3 s.ds.length c3, .int .i64 s.clk]] w fun e w' => e = .returned (.bool true) ∧ Below w.heap.size w w' := by
  have X0 := BxTn.start w (.slice p1 s.cs.length c1) (.slice p2 s.ts.length c2) (.slice p3 s.ds.length c3) (.int .i64 s.clk) 26
  have HZ : Hid (∀ W : World, Below w.heap.size w W → Calls _ _ _ W _) := fun W hW => szStore_any p1 p2 p3 c1 c2 c3 s 1048576 W (hin.step hW) hm (by omega) (by omega)
  clear hm
  go_enter Tryz.func4, Tryz.ntmps4
  go_wp2_with fail
  refine (HZ.out _ X0.bel).mono ?_
  rintro e w1 ⟨⟨r, rfl, hr⟩, hb⟩
  have X1 := X0.step hb
  clear hb HZ X0
  rcases hr with hneg | ⟨hr0, hr1, hsz⟩
  · have hbw := X1.bel
    go_wp2_with fail
    go_ret
    exact ⟨rfl, hbw⟩
  have hnn : ¬ r < 0 := by omega
  have HSZ : Hid (SzSto s) := hsz
  have HTO : Hid (∀ W : World, Below w.heap.size w W → Calls _ _ _ W _) := fun W hW => toStore_any p1 p2 p3 c1 c2 c3 s W (hin.step hW) hsz
  have HS : Hid (∀ (ga gb gd b : Nat) (W : World), MadeSto W b ga gb gd s → Calls _ _ _ W _) := fun ga gb gd b W hW => specOldest_any b ga gb gd s.cs.length s.ts.length s.ds.length s W hW hsz
  have HI : Hid (∀ (ga gb gd b : Nat) (W : World), MadeSto W b ga gb gd s → Calls _ _ _ W _) := fun ga gb gd b W hW => implOldest_any b ga gb gd s.cs.length s.ts.length s.ds.length s W hW hsz
  obtain ⟨P1, hP1⟩ : ∃ P, P = (oldR s).1 := ⟨_, rfl⟩
  obtain ⟨P2, hP2⟩ : ∃ P, P = (oldR s).2 := ⟨_, rfl⟩
  rw [← hP1, ← hP2] at HS HI
  clear hP1 hP2
  clear hsz hr1 hin
  obtain ⟨B1, L1, x0, x1, x2, x3⟩ := id X1
  go_wp2_with fail
  refine (HTO.out _ X1.bel).mono ?_
  rintro e w2 ⟨⟨ga2, gb2, gd2, rfl, O2⟩, hb⟩
  have X2 := X1.step hb
  have HO2 : Hid (MadeSto _ _ _ _ _ _) := O2
  clear hb X1 B1 L1 x0 x1 x2 x3 O2
  go_wp2_with fail
  refine (HS.out ga2 gb2 gd2 _ _ HO2.out).mono ?_
  rintro e w3 ⟨rfl, hb⟩
  have X3 := X2.step hb
  clear hb X2 HO2
  obtain ⟨B3, L3, x0, x1, x2, x3⟩ := id X3
  go_wp2_with fail
  refine (HTO.out _ X3.bel).mono ?_
  rintro e w4 ⟨⟨ga, gb, gd, rfl, O4⟩, hb⟩
  have hbA : Below w4.heap.size w4 (w4.alloc (.cells #[.slice (some ⟨ga, 0, none⟩) s.cs.length s.cs.length, .slice (some ⟨gb, 0, none⟩) s.ts.length s.ts.length, .slice (some ⟨gd, 0, none⟩) s.ds.length s.ds.length, .int .i64 s.clk] 33)) := (Below.refl _ _).alloc (Nat.le_refl _) _
  have X5 := (X3.step hb).step hbA
  have HO5 : Hid (MadeSto _ _ _ _ _ _) := O4.next hbA
  have Y5 := BxTn.start w4 (.slice (some ⟨ga, 0, none⟩) s.cs.length s.cs.length) (.slice (some ⟨gb, 0, none⟩) s.ts.length s.ts.length) (.slice (some ⟨gd, 0, none⟩) s.ds.length s.ds.length) (.int .i64 s.clk) 33
  clear hb X3 B3 L3 x0 x1 x2 x3 O4 hbA
  go_wp2_with fail
  generalize w4.alloc (.cells #[.slice (some ⟨ga, 0, none⟩) s.cs.length s.cs.length, .slice (some ⟨gb, 0, none⟩) s.ts.length s.ts.length, .slice (some ⟨gd, 0, none⟩) s.ds.length s.ds.length, .int .i64 s.clk] 33) = W5 at X5 HO5 Y5 ⊢
  refine (HI.out ga gb gd _ _ HO5.out).mono ?_
  rintro e w6 ⟨rfl, hb⟩
  have X6 := X5.step hb
  have HO6 : Hid (MadeSto w6 _ ga gb gd s) := HO5.out.next hb
  obtain ⟨_, m6, y0, y1, y2, y3⟩ := Y5.step hb
  clear hb X5 HO5 Y5
  obtain ⟨bx, hbx⟩ : ∃ bx, bx = w4.heap.size := ⟨_, rfl⟩
  rw [← hbx] at y0 y1 y2 y3 m6 ⊢
  clear hbx
  all_goals
    go_wp2_with fail
    go_region_held3 (fun w0 => w0.cell? ⟨w.heap.size, 0, none⟩ = some (.slice p1 s.cs.length c1) ∧ w0.cell? ⟨w.heap.size, 1, none⟩ = some (.slice p2 s.ts.length c2) ∧ w0.cell? ⟨w.heap.size, 2, none⟩ = some (.slice p3 s.ds.length c3) ∧ w0.cell? ⟨w.heap.size, 3, none⟩ = some (.int .i64 s.clk) ∧ w0.cell? ⟨bx, 0, none⟩ = some (.slice (some ⟨ga, 0, none⟩) s.cs.length s.cs.length) ∧ w0.cell? ⟨bx, 1, none⟩ = some (.slice (some ⟨gb, 0, none⟩) s.ts.length s.ts.length) ∧ w0.cell? ⟨bx, 2, none⟩ = some (.slice (some ⟨gd, 0, none⟩) s.ds.length s.ds.length) ∧ w0.cell? ⟨bx, 3, none⟩ = some (.int .i64 s.clk)) ((refine keepSt X6 m6 y0 y1 y2 y3 ?_; (repeat (first | (with_reducible exact Below.refl _ _) | (with_reducible assumption) | (with_reducible apply below_drewN) | (with_reducible apply Below.drew) | ((with_reducible refine Below.setCell ?_ ?_ _); rotate_left; focus (first | (simp; done) | (simp; omega) | omega)) | ((with_reducible refine Below.alloc ?_ ?_ _); rotate_left; focus (first | (simp; done) | (simp; omega) | omega)))))) (first | (go_at_call 10; refine (HTO.out _ (X6.bel.trans ((show Below w6.heap.size w6 _ by (repeat (first | (with_reducible exact Below.refl _ _) | (with_reducible assumption) | (with_reducible apply below_drewN) | (with_reducible apply Below.drew) | ((with_reducible refine Below.setCell ?_ ?_ _); rotate_left; focus (first | (simp; done) | (simp; omega) | omega)) | ((with_reducible refine Below.alloc ?_ ?_ _); rotate_left; focus (first | (simp; done) | (simp; omega) | omega))))).mono X6.bel.size))).mono ?_; rintro e w7 ⟨⟨ga7, gb7, gd7, rfl, O7⟩, hb⟩; have hB7 : Below w6.heap.size w6 w7 := (show Below w6.heap.size w6 _ by (repeat (first | (with_reducible exact Below.refl _ _) | (with_reducible assumption) | (with_reducible apply below_drewN) | (with_reducible apply Below.drew) | ((with_reducible refine Below.setCell ?_ ?_ _); rotate_left; focus (first | (simp; done) | (simp; omega) | omega)) | ((with_reducible refine Below.alloc ?_ ?_ _); rotate_left; focus (first | (simp; done) | (simp; omega) | omega))))).trans (hb.mono (by simp)); have HO7 : Hid (MadeSto w7 _ ga7 gb7 gd7 s) := O7; clear hb O7) | (go_at_call 12; refine (eqStore_same _ _ _ _ _ _ _ _ s _ (HO6.out.next hB7) HO7.out HSZ.out).mono ?_; rintro e w8 ⟨rfl, hb⟩; have hB8 : Below w6.heap.size w6 w8 := hB7.trans (hb.mono hB7.size); clear hb))
    have hbw := (X6.step hB8).bel
    go_wp2_with fail
    go_ret
    exact ⟨rfl, hbw⟩

end Go.Proofs.YtpfbepbmiillbaaGreatDoor.OldSnapf

/- Rows of numbers: what the laws' helpers on them answer; two numbers put behind them. -/
namespace Go.Proofs.YtpfbepbmiillbaaGreatDoor.Ce
open Go.RowKit Tr
set_option linter.unusedVariables false

theorem growN_trans {a b c : World} {row : Option Nat} (h : a.grownBy b row) (k : b.grownBy c row) : a.grownBy c row :=
  ⟨k.os.trans h.os, k.tape.trans h.tape, k.output.trans h.output, Nat.le_trans h.size k.size, fun i hi hne => (k.block i (Nat.lt_of_lt_of_le hi h.size) hne).trans (h.block i hi hne)⟩
theorem growN_refl (a : World) (row : Option Nat) : a.grownBy a row := ⟨rfl, rfl, rfl, Nat.le_refl _, fun _ _ _ => rfl⟩
def intsV (l : List Int) : List Value := l.map fun z => .int .i64 z
def OwnI (w : World) (base : Nat) (v : Value) (l : List Int) : Prop := w.ownsRow base 3 1 v l.length (intsV l)
theorem infoZ : (Tryz.prog.info? 3).map (fun i => (i.zero, i.size, i.bytes)) = some (some (.int .i64 0), 1, 8) := by kernel_rfl
/-- A row of numbers at a block's head, a nil one too. -/
def InN (w : World) (a : Option Addr) (l : List Int) : Prop := l.length = 0 ∨ ∃ g, a = some ⟨g, 0, none⟩ ∧ g < w.heap.size ∧ ∀ i (h : i < l.length), w.cell? ⟨g, i, none⟩ = some (.int .i64 l[i])
theorem InN.step {w w' : World} {a : Option Addr} {l : List Int} (h : InN w a l) (hb : Below w.heap.size w w') : InN w' a l := by
  rcases h with h | ⟨g, ha, hlt, hc⟩
  · exact .inl h
  · exact .inr ⟨g, ha, Nat.lt_of_lt_of_le hlt hb.size, fun i hi => (hb.cell hlt).trans (hc i hi)⟩
theorem intsV_get (l : List Int) (i : Nat) (h : i < l.length) : (intsV l)[i]? = some (.int .i64 l[i]) := by unfold intsV; simp [List.getElem?_eq_getElem h]
theorem intsV_set (l : List Int) (i : Nat) (z : Int) : (intsV l).set i (.int .i64 z) = intsV (l.set i z) := by unfold intsV; rw [List.map_set]
theorem OwnI.form {w : World} {base : Nat} {v : Value} {l : List Int} (h : OwnI w base v l) : (v = .slice none 0 0 ∧ l = []) ∨ ∃ g cap, v = .slice (some ⟨g, 0, none⟩) l.length cap ∧ base ≤ g ∧ g < w.heap.size := by
  have hlt := World.ownsRow.lt h
  obtain ⟨h1, h2⟩ := h
  rcases h2 with ⟨h2, h3⟩ | ⟨g, cap, cur, hv, hg, hh, r⟩
  · exact .inl ⟨h2, List.length_eq_zero_iff.1 h3⟩
  · exact .inr ⟨g, cap, hv, hg, (hlt g (by rw [hv]; rfl)).2⟩
theorem OwnI.inN {w : World} {base : Nat} {v : Value} {l : List Int} (h : OwnI w base v l) : ∃ p cap, v = .slice p l.length cap ∧ InN w p l := by
  rcases h.form with ⟨rfl, rfl⟩ | ⟨g, cap, rfl, _, hg⟩
  · exact ⟨none, 0, rfl, .inl rfl⟩
  · exact ⟨_, cap, rfl, .inr ⟨g, rfl, hg, fun i hi => owns_cell h i _ (intsV_get l i hi)⟩⟩

set_option maxRecDepth 4000 in
set_option maxHeartbeats 1000000 in
theorem eqIntS_same (p1 p2 : Option Addr) (c1 c2 : Nat) (l : List Int) (w : World) (h1 : InN w p1 l) (h2 : InN w p2 l) (hlen : l.length ≤ 1048576) :
    Calls Tryz.prog 17 #[.slice p1 l.length c1, .slice p2 l.length c2] w fun e w' => e = .returned (.bool true) ∧ Below w.heap.size w w' := by
  have H1 : Hid (InN _ _ _) := h1
  have H2 : Hid (InN _ _ _) := h2
  clear h1 h2
  go_enter Tryz.func17, Tryz.ntmps17
  go_wp2_with fail
  go_loopw [5] (fun i wr => ∃ k : Nat, k ≤ l.length ∧ i = .int .i64 k ∧ Below w.heap.size w wr) (fun i _ => l.length - (intOf i).toNat)
  case atStart => exact ⟨0, Nat.zero_le _, rfl, Below.refl _ _⟩
  case round =>
    obtain ⟨k, hk, rfl, hbel⟩ := hrel
    by_cases hlt : k < l.length
    · rcases H1.out.step hbel with h0 | ⟨g1, rfl, l1, x1⟩
      · omega
      rcases H2.out.step hbel with h0 | ⟨g2, rfl, l2, x2⟩
      · omega
      have hk1 : (k : Int) < (l.length : Int) := by omega
      have q0 : ∀ u : Under wr, u.x.cell? ⟨g1, k, none⟩ = some (.int .i64 l[k]) := fun u => (u.h.cell l1).trans (x1 k hlt)
      have r0 : ∀ u : Under wr, u.x.cell? ⟨g2, k, none⟩ = some (.int .i64 l[k]) := fun u => (u.h.cell l2).trans (x2 k hlt)
      have hnu : Nonempty (Under wr) := ⟨⟨wr, Below.refl _ _⟩⟩
      clear x1 x2
      go_wp2_with fail
      refine wp_region_under (by kernel_rfl) (by kernel_rfl) ?_
      repeat (go_big_quiet_step (fail))
      refine wpQuiet_nil ?_
      rintro _ ⟨u, rfl⟩
      go_wp2_with fail
      go_roundw
      case rel => exact ⟨k + 1, by omega, by go_num, hbel.trans (u.h.mono hbel.size)⟩
      case measure => simp [intOf]; omega
    · have hlt2 : ¬ (k : Int) < (l.length : Int) := by omega
      go_wp2_with fail
      go_ret
      exact ⟨rfl, hbel⟩

def marksN (q n : Nat) : List Int := (List.range n).map fun i : Nat => (q : Int) + (i : Int)
theorem marksN_len (q n : Nat) : (marksN q n).length = n := by unfold marksN; simp
def markMixN (q : Nat) (l : List Int) (k : Nat) : List Int := marksN q k ++ l.drop k
theorem markMixN_zero (q : Nat) (l : List Int) : markMixN q l 0 = l := by unfold markMixN marksN; simp
theorem markMixN_full (q : Nat) (l : List Int) : markMixN q l l.length = marksN q l.length := by unfold markMixN; simp
theorem markMixN_set (q : Nat) (l : List Int) (k : Nat) (h : k < l.length) : (markMixN q l k).set k ((q : Int) + (k : Int)) = markMixN q l (k + 1) := by
  unfold markMixN
  rw [List.set_append_right _ _ (by rw [marksN_len]; omega), marksN_len, Nat.sub_self]
  have e : marksN q (k + 1) = marksN q k ++ [(q : Int) + (k : Int)] := by unfold marksN; rw [List.range_succ, List.map_append]; rfl
  rw [e, List.append_assoc]
  congr 1
  rw [List.drop_eq_getElem_cons h]; rfl
set_option maxRecDepth 4000 in
set_option maxHeartbeats 2000000 in
theorem markIntS_any (base : Nat) (v : Value) (l : List Int) (q : Nat) (w : World) (hown : OwnI w base v l) (hq : q ≤ 1048576) (hl : l.length ≤ 1048576) :
    Calls Tryz.prog 19 #[v, .int .i64 q] w fun e w' => e = .returned (.int .i64 ((q + l.length : Nat) : Int)) ∧ OwnI w' base v (marksN q l.length) ∧ w.grownBy w' v.ownBlock := by
  rcases hown.form with ⟨rfl, rfl⟩ | ⟨g, c, rfl, hgb, hgl⟩
  · have HO0 : Hid (OwnI _ _ _ _) := hown
    clear hown
    go_enter Tryz.func19, Tryz.ntmps19
    go_wp2_with fail
    refine wp_loop_rounds 1 ?_
    rw [rounds_succ]
    go_wp2_with fail
    go_ret
    exact ⟨rfl, HO0.out, growN_refl _ _⟩
  · have HO0 : Hid (OwnI _ _ _ _) := hown
    clear hown
    go_enter Tryz.func19, Tryz.ntmps19
    go_wp2_with fail
    go_loopw [1, 5] (fun x i wr => ∃ k : Nat, k ≤ l.length ∧ i = .int .i64 k ∧ x = .int .i64 ((q + k : Nat) : Int) ∧ wr.ownsRow base 3 1 (.slice (some ⟨g, 0, none⟩) l.length c) l.length (intsV (markMixN q l k)) ∧ w.grownBy wr (some g)) (fun _ i _ => l.length - (intOf i).toNat)
    case atStart => exact ⟨0, Nat.zero_le _, rfl, rfl, by rw [markMixN_zero]; exact HO0.out, growN_refl _ _⟩
    case round =>
      obtain ⟨k, hk, rfl, rfl, hown, hgr⟩ := hrel
      have HB : Hid (World.grownBy _ _ _) := hgr
      clear hgr HO0
      by_cases hlt : k < l.length
      · have hlt2 : (k : Int) < (l.length : Int) := by omega
        obtain ⟨z0, y0⟩ := Tr.own_there hown k (by omega)
        have f0 := World.ownsRow.frozenAt hown k
        have hst := (World.ownsRow.stored hown k (.int .i64 ((q : Int) + (k : Int)))).1
        rw [intsV_set, markMixN_set q l k hlt] at hst
        have HS : Hid (World.ownsRow _ _ _ _ _ _ _) := hst
        have hglr : g < wr.heap.size := (hown.lt g rfl).2
        clear hst hown
        go_wp2_with fail
        go_roundw
        case rel => exact ⟨k + 1, by omega, by go_num, by go_num, HS.out, growN_trans HB.out grown_set⟩
        case measure => simp [intOf]; omega
      · obtain rfl : k = l.length := by omega
        rw [markMixN_full] at hown
        have HO : Hid (World.ownsRow _ _ _ _ _ _ _) := hown
        clear hown
        go_wp2_with fail
        go_ret
        exact ⟨rfl, by unfold OwnI; rw [marksN_len]; exact HO.out, HB.out⟩
set_option maxRecDepth 4000 in
set_option maxHeartbeats 2000000 in
theorem heldIntS_any (a : Option Addr) (c n : Nat) (q : Nat) (w : World) (hr : InN w a (marksN q n)) (hq : q ≤ 1048576) (hl : n ≤ 1048576) :
    Calls Tryz.prog 20 #[.slice a n c, .int .i64 q] w fun e w' => e = .returned (.int .i64 ((q + n : Nat) : Int)) ∧ Below w.heap.size w w' := by
  have HR : Hid (InN _ _ _) := hr
  clear hr
  go_enter Tryz.func20, Tryz.ntmps20
  go_wp2_with fail
  go_loopw [1, 5] (fun x i wr => ∃ k : Nat, k ≤ n ∧ i = .int .i64 k ∧ x = .int .i64 ((q + k : Nat) : Int) ∧ Below w.heap.size w wr) (fun _ i _ => n - (intOf i).toNat)
  case atStart => exact ⟨0, Nat.zero_le _, rfl, rfl, Below.refl _ _⟩
  case round =>
    obtain ⟨k, hk, rfl, rfl, hbel⟩ := hrel
    by_cases hlt : k < n
    · rcases HR.out.step hbel with h0 | ⟨g, rfl, l1, x⟩
      · rw [marksN_len] at h0; omega
      have x0 := x k (by rw [marksN_len]; exact hlt)
      rw [show (marksN q n)[k]'(by rw [marksN_len]; exact hlt) = (q : Int) + (k : Int) by simp [marksN]] at x0
      have hk1 : (k : Int) < (n : Int) := by omega
      clear x
      go_wp2_with fail
      go_roundw
      case rel => exact ⟨k + 1, by omega, by go_num, by go_num, hbel⟩
      case measure => simp [intOf]; omega
    · obtain rfl : k = n := by omega
      go_wp2_with fail
      go_ret
      exact ⟨rfl, hbel⟩


end Go.Proofs.YtpfbepbmiillbaaGreatDoor.Ce

/- The open sessions of a store: both answers. -/
namespace Go.Proofs.YtpfbepbmiillbaaGreatDoor.Tx
open Go.RowKit Go.Shelf Tr Co Rea Ce
set_option linter.unusedVariables false

def snS (l : List Tn) : List Int := l.map (·.sn)
theorem snS_next (l : List Tn) (k : Nat) (h : k < l.length) : snS (l.take (k + 1)) = snS (l.take k) ++ [l[k].sn] := by
  unfold snS; rw [List.take_succ_eq_append_getElem h, List.map_append]; rfl
theorem snS_len (l : List Tn) (k : Nat) : (snS (l.take k)).length ≤ l.length := by unfold snS; simp; omega
def opnL (s : Sto) : List Int := if stoB s = true then snS s.ts else []
def opnC (s : Sto) : Int := if stoB s = true then 0 else 1
theorem stoB_txs (s : Sto) (h : stoB s = true) : s.ts.length ≤ 4 := by
  unfold stoB at h
  simp only [Bool.and_eq_true] at h
  have := txsB_len s.cs s.ts (-1) (by omega) h.2.2.2.2.1
  omega
theorem opnL_len (s : Sto) : (opnL s).length ≤ 4 := by
  unfold opnL
  by_cases h : stoB s = true
  · rw [if_pos h]; have := stoB_txs s h; unfold snS; simp; omega
  · rw [if_neg h]; simp
theorem ownI_nil (w : World) (base : Nat) : OwnI w base (.slice none 0 0) [] := ⟨rfl, .inl ⟨rfl, rfl⟩⟩
theorem ownI_made (w : World) (base : Nat) (h : base ≤ w.heap.size) : OwnI (w.alloc (.cells #[] 3)) base (.slice (some ⟨w.heap.size, 0, none⟩) 0 0) [] :=
  World.ownsRow_made (size := 1) (e := 3) w #[] 0 h (by unfold maxLen; omega) rfl
theorem ownI_lower {w : World} {base base' : Nat} {v : Value} {l : List Int} (h : OwnI w base v l) (hb : base' ≤ base) : OwnI w base' v l := by
  obtain ⟨h1, h2⟩ := h
  refine ⟨h1, ?_⟩
  rcases h2 with h2 | ⟨g, cap, cur, hv, hg, r⟩
  · exact .inl h2
  · exact .inr ⟨g, cap, cur, hv, Nat.le_trans hb hg, r⟩
theorem intsV_one (l : List Int) (x : Int) : intsV (l ++ [x]) = intsV l ++ [.int .i64 x] := by unfold intsV; simp
theorem cellOne (w : World) (a : Value) (T : TypeId) : ∀ (j : Nat) (u : Value), [a][j]? = some u → (w.alloc (.cells #[a] T)).cell? ((⟨w.heap.size, 0, none⟩ : Addr).add j) = some u := by
  intro j u hj
  match j, hj with
  | 0, hj => simp at hj; subst hj; simp [Addr.add, go_sem]
  | j + 1, hj => simp at hj
theorem appOneI {ops : Array Oper} {rest : List Oper} {o : Oper} {a : Act} {Q : Exit → Act → World → Prop} {w : World} (hgd : o.guard = none) (s x : Operand)
    (ho : o.op = .call { callee := .builtin .append, args := #[s, x], argTypes := #[39, 39] }) (B : Nat) (v : Value) (l : List Int) (c : Int)
    (ad : Nat) (hs : a.eval s = v) (hx : a.eval x = .slice (some ⟨ad, 0, none⟩) 1 1) (had : ad = w.heap.size) (hown : OwnI w B v l) (hB : B ≤ w.heap.size) (hlim : l.length ≤ 1000000)
    (h : ∀ v' w', OwnI w' B v' (l ++ [c]) → Below B w w' → wpList Tryz.prog ops Q rest (a.put o.dst v') w') :
    wpList Tryz.prog ops Q (o :: rest) a (w.alloc (.cells #[.int .i64 c] 3)) := by
  subst had
  obtain ⟨i0, hi, hz0, hz1, hz2⟩ := info_parts infoZ
  refine wpList_append_own _ hgd s x 39 ho B 3 i0 (.int .i64 0) 1 8 Tryz.underlying39 hi hz0 hz1 hz2 rfl (by decide) _ _ _ hs (World.ownsRow.alloc hown _) ⟨w.heap.size, 0, none⟩ 1 1 [.int .i64 c] hx rfl (cellOne _ _ _) (by intro u hu; simp at hu; subst hu; rfl) (by unfold maxLen; omega) (by omega) (by simp; omega) ?_
  intro v' w' hown' hgrow _
  have ha : Below B w (w.alloc (.cells #[.int .i64 c] 3)) := (Below.refl _ _).alloc hB _
  refine h v' w' ?_ (Below.grown ha hgrow (by simp; omega) (fun k hk => (World.ownsRow.lt hown k hk).1))
  unfold OwnI
  rw [intsV_one, List.length_append]
  exact hown'
/-- Both sides' answer. -/
def OpR (s : Sto) (w : World) (e : Ending) (w' : World) : Prop := (∃ v, e = .returned (.tuple #[v, .int .i64 (opnC s)]) ∧ OwnI w' w.heap.size v (opnL s)) ∧ Below w.heap.size w w'

set_option maxRecDepth 4000 in
set_option maxHeartbeats 4000000 in
theorem specOpen_any (bs gc gt gd cc ct cd : Nat) (s : Sto) (w : World) (hm : MadeSto w bs gc gt gd s) (hz : SzSto s) :
    Calls Tryz.prog 15 #[.agg #[.slice (some ⟨gc, 0, none⟩) s.cs.length cc, .slice (some ⟨gt, 0, none⟩) s.ts.length ct, .slice (some ⟨gd, 0, none⟩) s.ds.length cd, .int .i64 s.clk]] w fun e w' => OpR s w e w' := by
  have X0 := BxTn.start w (.slice (some ⟨gc, 0, none⟩) s.cs.length cc) (.slice (some ⟨gt, 0, none⟩) s.ts.length ct) (.slice (some ⟨gd, 0, none⟩) s.ds.length cd) (.int .i64 s.clk) 33
  have HM : Hid (MadeSto _ _ _ _ _ _) := hm
  have HS : Hid (Calls _ _ _ _ _) := specStoB_any bs gc gt gd cc ct cd s _ (hm.next X0.bel) hz
  have HT : Hid (stoB s = true → s.ts.length ≤ 4) := stoB_txs s
  clear hm hz
  unfold OpR
  obtain ⟨B, hB⟩ : ∃ B, B = stoB s := ⟨_, rfl⟩
  have hL : opnL s = if B = true then snS s.ts else [] := by rw [hB]; rfl
  have hC : opnC s = if B = true then 0 else 1 := by rw [hB]; rfl
  rw [← hB] at HS HT
  rw [hL, hC]
  clear hB hL hC
  go_enter Tryz.func15, Tryz.ntmps15
  obtain ⟨_, xl, k0, k1, k2, k3⟩ := id X0
  go_wp2_with fail
  refine HS.out.mono ?_
  rintro e w1 ⟨rfl, hb⟩
  have X1 := X0.step hb
  clear hb X0 HS xl k0 k1 k2 k3
  obtain ⟨hb1, xl, k0, k1, k2, k3⟩ := id X1
  cases B
  · go_wp2_with fail
    go_ret2
    exact ⟨⟨_, rfl, ownI_made w1 _ (by have := hb1.size; omega)⟩, by (repeat (first | (with_reducible exact Below.refl _ _) | (with_reducible assumption) | (with_reducible apply below_drewN) | (with_reducible apply Below.drew) | ((with_reducible refine Below.setCell ?_ ?_ _); rotate_left; focus (first | (simp; done) | (simp; omega) | omega)) | ((with_reducible refine Below.alloc ?_ ?_ _); rotate_left; focus (first | (simp; done) | (simp; omega) | omega))))⟩
  have h4 := HT.out rfl
  have HO0 : Hid (OwnI _ w1.heap.size _ []) := ownI_made w1 w1.heap.size (Nat.le_refl _)
  go_wp2_with fail
  go_loopw [4, 5] (fun u i wr => ∃ k : Nat, k ≤ s.ts.length ∧ i = .int .i64 k ∧ OwnI wr w1.heap.size u (snS (s.ts.take k)) ∧ Below w1.heap.size w1 wr) (fun _ i _ => s.ts.length - (intOf i).toNat)
  case atStart => exact ⟨0, Nat.zero_le _, rfl, HO0.out, by (repeat (first | (with_reducible exact Below.refl _ _) | (with_reducible assumption) | (with_reducible apply below_drewN) | (with_reducible apply Below.drew) | ((with_reducible refine Below.setCell ?_ ?_ _); rotate_left; focus (first | (simp; done) | (simp; omega) | omega)) | ((with_reducible refine Below.alloc ?_ ?_ _); rotate_left; focus (first | (simp; done) | (simp; omega) | omega))))⟩
  case round =>
    obtain ⟨k, hk, rfl, hown, hbl⟩ := hrel
    have HO1 : Hid (OwnI _ _ _ _) := hown
    clear hown HO0
    have hz1 := hbl.size
    obtain ⟨hbw, yl, y0, y1, y2, y3⟩ := X1.step hbl
    clear k0 k1 k2 k3 xl
    by_cases hlt : k < s.ts.length
    · have hlt2 : (k : Int) < (s.ts.length : Int) := by omega
      have R1 := HM.out.t.next hbw
      obtain ⟨gr, gw, ⟨x0, x1, x2, x3⟩, _, _, _⟩ := R1.cells k hlt
      have hg1 := R1.lt
      have hll := snS_len s.ts k
      have hst := snS_next s.ts k hlt
      obtain ⟨x, hx⟩ : ∃ x, x = s.ts[k] := ⟨_, rfl⟩
      rw [← hx] at x0 x1 x2 x3 hst
      obtain ⟨L, hL⟩ : ∃ L, L = snS (s.ts.take k) := ⟨_, rfl⟩
      rw [← hL] at HO1 hst hll
      have HST : Hid (_ = _) := hst
      clear R1 hx hst hL
      go_wp2_with (at_builtin; refine appOneI rfl (.tmp 18) (.tmp 25) rfl w1.heap.size _ L x.sn _ rfl rfl (by simp) HO1.out hz1 (by omega) ?_; intro v1 w4 o1 b1'; refine Hid.out ?_)
      refine Lib.hid ?_
      have hb4 := hbl.trans b1'
      go_wp2_with fail
      go_roundw
      case rel => exact ⟨k + 1, by omega, by go_num, by rw [HST.out]; exact o1, hb4⟩
      case measure => simp [intOf]; omega
    · have hlt2 : ¬ (k : Int) < (s.ts.length : Int) := by omega
      have hal : snS (s.ts.take k) = snS s.ts := by rw [List.take_of_length_le (by omega)]
      rw [hal] at HO1
      have hbw1 := hb1.size
      clear hal
      go_wp2_with fail
      go_ret2
      exact ⟨⟨_, rfl, ownI_lower HO1.out hbw1⟩, hbw⟩

set_option maxRecDepth 4000 in
set_option maxHeartbeats 4000000 in
theorem implOpen_any (bs gc gt gd cc ct cd : Nat) (s : Sto) (w : World) (hm : MadeSto w bs gc gt gd s) (hz : SzSto s) :
    Calls Tryz.prog 16 #[.agg #[.slice (some ⟨gc, 0, none⟩) s.cs.length cc, .slice (some ⟨gt, 0, none⟩) s.ts.length ct, .slice (some ⟨gd, 0, none⟩) s.ds.length cd, .int .i64 s.clk]] w fun e w' => OpR s w e w' := by
  have X0 := BxTn.start w (.slice (some ⟨gc, 0, none⟩) s.cs.length cc) (.slice (some ⟨gt, 0, none⟩) s.ts.length ct) (.slice (some ⟨gd, 0, none⟩) s.ds.length cd) (.int .i64 s.clk) 33
  have HM : Hid (MadeSto _ _ _ _ _ _) := hm
  have HS : Hid (Calls _ _ _ _ _) := storeOK_any bs gc gt gd cc ct cd s _ (hm.next X0.bel) hz
  have HT : Hid (stoB s = true → s.ts.length ≤ 4) := stoB_txs s
  clear hm hz
  unfold OpR
  obtain ⟨B, hB⟩ : ∃ B, B = stoB s := ⟨_, rfl⟩
  have hL : opnL s = if B = true then snS s.ts else [] := by rw [hB]; rfl
  have hC : opnC s = if B = true then 0 else 1 := by rw [hB]; rfl
  rw [← hB] at HS HT
  rw [hL, hC]
  clear hB hL hC
  go_enter Tryz.func16, Tryz.ntmps16
  obtain ⟨_, xl, k0, k1, k2, k3⟩ := id X0
  go_wp2_with fail
  refine HS.out.mono ?_
  rintro e w1 ⟨rfl, hb⟩
  have X1 := X0.step hb
  clear hb X0 HS xl k0 k1 k2 k3
  obtain ⟨hb1, xl, k0, k1, k2, k3⟩ := id X1
  cases B
  · go_wp2_with fail
    go_ret2
    exact ⟨⟨_, rfl, ownI_nil _ _⟩, hb1⟩
  have h4 := HT.out rfl
  have HO0 : Hid (OwnI _ w1.heap.size _ []) := ownI_nil w1 w1.heap.size
  go_wp2_with fail
  go_loopw [4, 13] (fun u i wr => ∃ k : Nat, k ≤ s.ts.length ∧ i = .int .i64 k ∧ OwnI wr w1.heap.size u (snS (s.ts.take k)) ∧ Below w1.heap.size w1 wr) (fun _ i _ => s.ts.length - (intOf i).toNat)
  case atStart => exact ⟨0, Nat.zero_le _, rfl, HO0.out, by (repeat (first | (with_reducible exact Below.refl _ _) | (with_reducible assumption) | (with_reducible apply below_drewN) | (with_reducible apply Below.drew) | ((with_reducible refine Below.setCell ?_ ?_ _); rotate_left; focus (first | (simp; done) | (simp; omega) | omega)) | ((with_reducible refine Below.alloc ?_ ?_ _); rotate_left; focus (first | (simp; done) | (simp; omega) | omega))))⟩
  case round =>
    obtain ⟨k, hk, rfl, hown, hbl⟩ := hrel
    have HO1 : Hid (OwnI _ _ _ _) := hown
    clear hown HO0
    have hz1 := hbl.size
    obtain ⟨hbw, yl, y0, y1, y2, y3⟩ := X1.step hbl
    clear k0 k1 k2 k3 xl
    by_cases hlt : k < s.ts.length
    · have hlt2 : (k : Int) < (s.ts.length : Int) := by omega
      have R1 := HM.out.t.next hbw
      obtain ⟨gr, gw, ⟨x0, x1, x2, x3⟩, _, _, _⟩ := R1.cells k hlt
      have hg1 := R1.lt
      have hll := snS_len s.ts k
      have hst := snS_next s.ts k hlt
      obtain ⟨x, hx⟩ : ∃ x, x = s.ts[k] := ⟨_, rfl⟩
      rw [← hx] at x0 x1 x2 x3 hst
      obtain ⟨L, hL⟩ : ∃ L, L = snS (s.ts.take k) := ⟨_, rfl⟩
      rw [← hL] at HO1 hst hll
      have HST : Hid (_ = _) := hst
      clear R1 hx hst hL
      have hbA : Below wr.heap.size wr (wr.alloc (.cells #[.int .i64 x.sn, .int .i64 x.sp, .slice (some ⟨gr, 0, none⟩) x.rs.length x.rs.length, .slice (some ⟨gw, 0, none⟩) x.cs.length x.cs.length] 75)) := (Below.refl _ _).alloc (Nat.le_refl _) _
      have hbB := hbl.trans (hbA.mono hz1)
      have hzB := hbB.size
      have HO2 : Hid (OwnI _ w1.heap.size _ L) := owns_below HO1.out hbA
      clear hbA
      go_wp2_with (at_builtin; refine appOneI rfl (.tmp 17) (.tmp 20) rfl w1.heap.size _ L x.sn _ rfl rfl (by simp) HO2.out hzB (by omega) ?_; intro v1 w4 o1 b1'; refine Hid.out ?_)
      refine Lib.hid ?_
      have hb4 := hbB.trans b1'
      go_wp2_with fail
      go_roundw
      case rel => exact ⟨k + 1, by omega, by go_num, by rw [HST.out]; exact o1, hb4⟩
      case measure => simp [intOf]; omega
    · have hlt2 : ¬ (k : Int) < (s.ts.length : Int) := by omega
      have hal : snS (s.ts.take k) = snS s.ts := by rw [List.take_of_length_le (by omega)]
      rw [hal] at HO1
      have hbw1 := hb1.size
      clear hal
      go_wp2_with fail
      go_ret2
      exact ⟨⟨_, rfl, ownI_lower HO1.out hbw1⟩, hbw⟩

end Go.Proofs.YtpfbepbmiillbaaGreatDoor.Tx

/- The law's own walk of OpenSessions. -/
namespace Go.Proofs.YtpfbepbmiillbaaGreatDoor.OpenSf
open Go.RowKit Tr Co Rea Ce Tx
set_option linter.unusedVariables false

theorem own_in {w : World} {base n c : Nat} {p : Option Addr} {l : List Int} (h : OwnI w base (.slice p n c) l) : InN w p l := by
  obtain ⟨q, d, e, N⟩ := h.inN
  injection e with e1 e2 e3
  subst e1
  exact N
set_option maxRecDepth 8000 in
set_option maxHeartbeats 8000000 in
theorem walk (p1 p2 p3 : Option Addr) (c1 c2 c3 : Nat) (s : Sto) (hm : MaxSto s) (w : World) (hin : InSto w p1 p2 p3 s) :
    Calls Tryz.prog 5 #[.agg #[.slice p1 s.cs.length c1, .slice p2 s.ts.length c2, .slice p3 s.ds.length c3, .int .i64 s.clk]] w fun e w' => e = .returned (.bool true) ∧ Below w.heap.size w w' := by
  have X0 := BxTn.start w (.slice p1 s.cs.length c1) (.slice p2 s.ts.length c2) (.slice p3 s.ds.length c3) (.int .i64 s.clk) 26
  have HZ : Hid (Calls _ _ _ _ _) := szStore_tot p1 p2 p3 c1 c2 c3 s 1048576 _ (hin.step X0.bel) hm (by omega) (by omega)
  have HIN : Hid (InSto w p1 p2 p3 s) := hin
  clear hm hin
  go_enter Tryz.func5, Tryz.ntmps5
  go_wp2_with fail
  generalize w.alloc (.cells #[.slice p1 s.cs.length c1, .slice p2 s.ts.length c2, .slice p3 s.ds.length c3, .int .i64 s.clk] 26) = W0 at X0 HZ ⊢
  refine HZ.out.mono ?_
  rintro e w1 ⟨⟨r, rfl, hr⟩, hb1⟩
  have X1 := X0.step hb1
  clear HZ
  obtain ⟨hbx, xl, x0, x1, x2, x3⟩ := id X1
  rcases hr with hneg | ⟨hr0, hr1, hsz⟩
  · go_wp2_with fail
    go_ret
    exact ⟨rfl, hbx⟩
  have hnn : ¬ r < 0 := by omega
  have hmk := Tz.mkS_le s r hr0 hr1
  have HTO : Hid (∀ W : World, Below w.heap.size w W → Calls _ _ _ W _) := fun W hW => Ty.toStore_any p1 p2 p3 c1 c2 c3 s W (HIN.out.step hW) hsz
  have HEQ : Hid (∀ (g1 g2 g3 h1 h2 h3 b1 b2 : Nat) (W : World), Tx.MadeSto W b1 g1 g2 g3 s → Tx.MadeSto W b2 h1 h2 h3 s → Calls _ _ _ W _) := fun g1 g2 g3 h1 h2 h3 b1 b2 W x y => eqStore_same g1 g2 g3 b1 h1 h2 h3 b2 s W x y hsz
  have HS0 := fun (ga gb gd b : Nat) (W : World) (hW : Tx.MadeSto W b ga gb gd s) => specOpen_any b ga gb gd s.cs.length s.ts.length s.ds.length s W hW hsz
  have HI0 := fun (ga gb gd b : Nat) (W : World) (hW : Tx.MadeSto W b ga gb gd s) => implOpen_any b ga gb gd s.cs.length s.ts.length s.ds.length s W hW hsz
  have hE := opnL_len s
  obtain ⟨E, hEe⟩ : ∃ E, E = opnL s := ⟨_, rfl⟩
  obtain ⟨C, hCe⟩ : ∃ C, C = opnC s := ⟨_, rfl⟩
  unfold OpR at HS0 HI0
  rw [← hEe, ← hCe] at HS0 HI0
  rw [← hEe] at hE
  have HS : Hid (∀ (ga gb gd b : Nat) (W : World), Tx.MadeSto W b ga gb gd s → Calls Tryz.prog 15 #[.agg #[.slice (some ⟨ga, 0, none⟩) s.cs.length s.cs.length, .slice (some ⟨gb, 0, none⟩) s.ts.length s.ts.length, .slice (some ⟨gd, 0, none⟩) s.ds.length s.ds.length, .int .i64 s.clk]] W fun e w' => (∃ v, e = .returned (.tuple #[v, .int .i64 C]) ∧ OwnI w' W.heap.size v E) ∧ Below W.heap.size W w') := HS0
  have HI : Hid (∀ (ga gb gd b : Nat) (W : World), Tx.MadeSto W b ga gb gd s → Calls Tryz.prog 16 #[.agg #[.slice (some ⟨ga, 0, none⟩) s.cs.length s.cs.length, .slice (some ⟨gb, 0, none⟩) s.ts.length s.ts.length, .slice (some ⟨gd, 0, none⟩) s.ds.length s.ds.length, .int .i64 s.clk]] W fun e w' => (∃ v, e = .returned (.tuple #[v, .int .i64 C]) ∧ OwnI w' W.heap.size v E) ∧ Below W.heap.size W w') := HI0
  have HSZ : Hid (Tz.mkS s ≤ 10485760 ∧ Tz.SmS s) := ⟨hmk, Tz.SmS.of hsz⟩
  clear HS0 HI0 hEe hCe hr1 hmk hsz hb1 X0
  go_wp2_with fail
  refine (HTO.out _ X1.bel).mono ?_
  rintro e w2 ⟨⟨ga2, gb2, gd2, rfl, O2⟩, hb⟩
  have X2 := X1.step hb
  have HO2 : Hid (Ty.MadeSto _ _ _ _ _ _) := O2
  clear hb O2 X1 hbx xl x0 x1 x2 x3
  go_wp2_with fail
  refine (HS.out ga2 gb2 gd2 _ _ HO2.out.old).mono ?_
  rintro e w3 ⟨⟨v3, rfl, P3⟩, hb⟩
  have X3 := X2.step hb
  have z2 := X2.bel.size
  have HP3 : Hid (OwnI w3 w2.heap.size v3 E ∧ ∀ g, v3.ownBlock = some g → g < w3.heap.size) := ⟨P3, fun g hg => (World.ownsRow.lt P3 g hg).2⟩
  have z3 := hb.size
  have hx2 := X2.lt
  clear hb P3 HO2 X2
  obtain ⟨hbx, xl, x0, x1, x2, x3⟩ := id X3
  go_wp2_with fail
  refine (HTO.out _ X3.bel).mono ?_
  rintro e w4 ⟨⟨ga, gb, gd, rfl, O4⟩, hb⟩
  have X4 := X3.step hb
  have z4 := hb.size
  have hbA : Below w4.heap.size w4 (w4.alloc (.cells #[.slice (some ⟨ga, 0, none⟩) s.cs.length s.cs.length, .slice (some ⟨gb, 0, none⟩) s.ts.length s.ts.length, .slice (some ⟨gd, 0, none⟩) s.ds.length s.ds.length, .int .i64 s.clk] 33)) := (Below.refl _ _).alloc (Nat.le_refl _) _
  have X5 := X4.step hbA
  have HB35 : Hid (Below w3.heap.size w3 _) := hb.trans (hbA.mono z4)
  have HO4 : Hid (Ty.MadeSto _ _ _ _ _ _) := O4
  have Y5 := BxTn.start w4 (.slice (some ⟨ga, 0, none⟩) s.cs.length s.cs.length) (.slice (some ⟨gb, 0, none⟩) s.ts.length s.ts.length) (.slice (some ⟨gd, 0, none⟩) s.ds.length s.ds.length) (.int .i64 s.clk) 33
  clear hb X3 X4 O4 hbx xl x0 x1 x2 x3 hbA
  obtain ⟨_, yl, y0, y1, y2, y3⟩ := id Y5
  go_wp2_with fail
  generalize w4.alloc (.cells #[.slice (some ⟨ga, 0, none⟩) s.cs.length s.cs.length, .slice (some ⟨gb, 0, none⟩) s.ts.length s.ts.length, .slice (some ⟨gd, 0, none⟩) s.ds.length s.ds.length, .int .i64 s.clk] 33) = W5 at X5 HB35 Y5 yl y0 y1 y2 y3 ⊢
  have hb45 := Y5.bel
  refine (HI.out ga gb gd _ _ (HO4.out.next hb45).old).mono ?_
  rintro e w5 ⟨⟨v5, rfl, P5⟩, hb⟩
  have X6 := X5.step hb
  have Y6 := Y5.step hb
  have z5 := hb.size
  have z45 := hb45.size
  have hlb5 := World.ownsRow.lt P5
  obtain ⟨p5, k5, rfl, N5⟩ := P5.inN
  have hP3 := HP3.out
  have e3 : OwnI w5 w2.heap.size v3 E := owns_below (owns_below hP3.1 HB35.out) hb
  obtain ⟨p3', k3, rfl, N3⟩ := e3.inN
  have HP5 : Hid (OwnI w5 W5.heap.size (.slice p5 E.length k5) E) := P5
  have HP3' : Hid (OwnI w5 w2.heap.size (.slice p3' E.length k3) E) := e3
  have HL3 : Hid (∀ g, (Value.slice p3' E.length k3).ownBlock = some g → g < w3.heap.size) := hP3.2
  have HL5 : Hid (∀ g, (Value.slice p5 E.length k5).ownBlock = some g → W5.heap.size ≤ g) := fun g hg => (hlb5 g hg).1
  have HQ5 : Hid (Calls _ _ _ _ _) := eqIntS_same p5 p3' k5 k3 E w5 N5 N3 (by omega)
  have hb4w : Below w4.heap.size w4 w5 := hb45.trans (hb.mono z45)
  have HB45 : Hid (Below w4.heap.size w4 w5) := hb4w
  have HB3w : Hid (Below w3.heap.size w3 w5) := HB35.out.trans (hb.mono HB35.out.size)
  clear hb P5 HP3 hP3 e3 N5 N3 hlb5 hb45 X5 Y5 yl y0 y1 y2 y3 hb4w HB35
  go_wp2_with fail
  refine HQ5.out.mono ?_
  rintro e w6 ⟨rfl, hb⟩
  have X7 := X6.step hb
  obtain ⟨_, m7, y0, y1, y2, y3⟩ := Y6.step hb
  have z6 := hb.size
  have HB46 : Hid (Below w4.heap.size w4 w6) := HB45.out.trans (hb.mono HB45.out.size)
  have HB36 : Hid (Below w3.heap.size w3 w6) := HB3w.out.trans (hb.mono HB3w.out.size)
  have HB56 : Hid (Below w5.heap.size w5 w6) := hb
  obtain ⟨bx, hbx⟩ : ∃ bx, bx = w4.heap.size := ⟨_, rfl⟩
  rw [← hbx] at y0 y1 y2 y3 m7 ⊢
  have HBX : Hid (bx = w4.heap.size) := hbx
  clear hb HQ5 X6 Y6 hbx HB45 HB3w
  go_wp2_with fail
  go_region_held3 (fun w0 => w0.cell? ⟨w.heap.size, 0, none⟩ = some (.slice p1 s.cs.length c1) ∧ w0.cell? ⟨w.heap.size, 1, none⟩ = some (.slice p2 s.ts.length c2) ∧ w0.cell? ⟨w.heap.size, 2, none⟩ = some (.slice p3 s.ds.length c3) ∧ w0.cell? ⟨w.heap.size, 3, none⟩ = some (.int .i64 s.clk) ∧ w0.cell? ⟨bx, 0, none⟩ = some (.slice (some ⟨ga, 0, none⟩) s.cs.length s.cs.length) ∧ w0.cell? ⟨bx, 1, none⟩ = some (.slice (some ⟨gb, 0, none⟩) s.ts.length s.ts.length) ∧ w0.cell? ⟨bx, 2, none⟩ = some (.slice (some ⟨gd, 0, none⟩) s.ds.length s.ds.length) ∧ w0.cell? ⟨bx, 3, none⟩ = some (.int .i64 s.clk)) ((refine keepSt X7 m7 y0 y1 y2 y3 ?_; (repeat (first | (with_reducible exact Below.refl _ _) | (with_reducible assumption) | (with_reducible apply below_drewN) | (with_reducible apply Below.drew) | ((with_reducible refine Below.setCell ?_ ?_ _); rotate_left; focus (first | (simp; done) | (simp; omega) | omega)) | ((with_reducible refine Below.alloc ?_ ?_ _); rotate_left; focus (first | (simp; done) | (simp; omega) | omega)))))) (first | (go_at_call 10; refine (HTO.out _ (X7.bel.trans ((show Below w6.heap.size w6 _ by (repeat (first | (with_reducible exact Below.refl _ _) | (with_reducible assumption) | (with_reducible apply below_drewN) | (with_reducible apply Below.drew) | ((with_reducible refine Below.setCell ?_ ?_ _); rotate_left; focus (first | (simp; done) | (simp; omega) | omega)) | ((with_reducible refine Below.alloc ?_ ?_ _); rotate_left; focus (first | (simp; done) | (simp; omega) | omega))))).mono X7.bel.size))).mono ?_; rintro e w7 ⟨⟨ga7, gb7, gd7, rfl, O7⟩, hb⟩; have hB7 : Below w6.heap.size w6 w7 := (show Below w6.heap.size w6 _ by (repeat (first | (with_reducible exact Below.refl _ _) | (with_reducible assumption) | (with_reducible apply below_drewN) | (with_reducible apply Below.drew) | ((with_reducible refine Below.setCell ?_ ?_ _); rotate_left; focus (first | (simp; done) | (simp; omega) | omega)) | ((with_reducible refine Below.alloc ?_ ?_ _); rotate_left; focus (first | (simp; done) | (simp; omega) | omega))))).trans (hb.mono (by simp)); have HO7 : Hid (Tx.MadeSto w7 _ ga7 gb7 gd7 s) := O7.old; clear hb O7) | (go_at_call 12; refine (HEQ.out _ _ _ _ _ _ _ _ _ (HO4.out.next (HB46.out.trans (hB7.mono HB46.out.size))).old HO7.out).mono ?_; rintro e w8 ⟨rfl, hb⟩; have hB8 : Below w6.heap.size w6 w8 := hB7.trans (hb.mono hB7.size); clear hb))
  have X8 := X7.step hB8
  have u0 := (hB8.cell m7).trans y0
  have u1 := (hB8.cell m7).trans y1
  have u2 := (hB8.cell m7).trans y2
  have u3 := (hB8.cell m7).trans y3
  have m8 := Nat.lt_of_lt_of_le m7 hB8.size
  have HB48 : Hid (Below w4.heap.size w4 w8) := HB46.out.trans (hB8.mono HB46.out.size)
  have HB38 : Hid (Below w3.heap.size w3 w8) := HB36.out.trans (hB8.mono HB36.out.size)
  have HB58 : Hid (Below w5.heap.size w5 w8) := HB56.out.trans (hB8.mono HB56.out.size)
  have z8 := HB48.out.size
  have z58 := HB58.out.size
  have HM8 : Hid (Calls _ _ _ _ _) := Tz.markStore_any w3.heap.size w4.heap.size ga gb gd s.cs.length s.ts.length s.ds.length 1 s w8 ((Tz.MadeCs.sh HO4.out.c).mk' (Tz.Mk.of_below HB48.out)) ((Tz.MadeTn.sh HO4.out.t).mk' (Tz.Mk.of_below HB48.out)) ((Tz.MadeDn.sh HO4.out.d).mk' (Tz.Mk.of_below HB48.out)) (by omega) (by omega) (by have := HSZ.out.1; omega) HSZ.out.2
  clear hB8 hB7 HO7 X7 y0 y1 y2 y3 m7 HB46 HB36 HB56 HEQ
  go_wp2_with fail
  refine HM8.out.mono ?_
  rintro e w9 ⟨rfl, hm9⟩
  have hk9 : ¬ (((1 + Tz.mkS s : Nat) : Int) < 0) := by omega
  have z9 := hm9.chg.size
  have O5 := owns_below HP5.out HB58.out
  have O3 := owns_below HP3'.out HB58.out
  have hbxe := HBX.out
  have M5 : OwnI w9 W5.heap.size (.slice p5 E.length k5) E := hm9.chg.owns O5 (fun g hg => .inr (by have := HL5.out g hg; omega))
  have M3 : OwnI w9 w2.heap.size (.slice p3' E.length k3) E := hm9.chg.owns O3 (fun g hg => .inl (HL3.out g hg))
  have l8 := X8.lt
  have X9 : BxTn w w9 (.slice p1 s.cs.length c1) (.slice p2 s.ts.length c2) (.slice p3 s.ds.length c3) (.int .i64 s.clk) := by
    have hc : ∀ o, w9.cell? ⟨w.heap.size, o, none⟩ = w8.cell? ⟨w.heap.size, o, none⟩ := fun o => World.cell?_of_block (a := ⟨w.heap.size, o, none⟩) (hm9.chg.block w.heap.size l8 (.inl (by omega)))
    exact ⟨X8.bel.trans (hm9.chg.below (by omega) (by omega)), by omega, (hc 0).trans X8.c0, (hc 1).trans X8.c1, (hc 2).trans X8.c2, (hc 3).trans X8.c3⟩
  have HX9 : Hid (BxTn w w9 (.slice p1 s.cs.length c1) (.slice p2 s.ts.length c2) (.slice p3 s.ds.length c3) (.int .i64 s.clk)) := X9
  have HQ9 : Hid (Calls _ _ _ _ _) := eqIntS_same p5 p3' k5 k3 E w9 (own_in M5) (own_in M3) (by omega)
  have HM5 : Hid (OwnI w9 W5.heap.size (.slice p5 E.length k5) E) := M5
  have HM3 : Hid (OwnI w9 w2.heap.size (.slice p3' E.length k3) E) := M3
  clear hm9 O5 O3 M5 M3 HM8 HB58 HB48 HB38 HO4 HP5 HP3' X8 X9 u0 u1 u2 u3 m8 l8 hbxe HBX
  go_wp2_with fail
  refine HQ9.out.mono ?_
  rintro e w10 ⟨rfl, hb⟩
  have z10 := hb.size
  have HX10 : Hid (BxTn w w10 (.slice p1 s.cs.length c1) (.slice p2 s.ts.length c2) (.slice p3 s.ds.length c3) (.int .i64 s.clk)) := HX9.out.step hb
  have K5 : OwnI w10 W5.heap.size (.slice p5 E.length k5) E := owns_below HM5.out hb
  have HK3 : Hid (OwnI w10 w2.heap.size (.slice p3' E.length k3) E) := owns_below HM3.out hb
  have HK5 : Hid (Calls _ _ _ _ _) := markIntS_any W5.heap.size _ E 1 w10 K5 (by omega) (by omega)
  clear hb K5 HM5 HM3 HQ9 HX9
  go_wp2_with fail
  refine HK5.out.mono ?_
  rintro e w11 ⟨rfl, K5, hg⟩
  have z11 := hg.size
  have K3 : OwnI w11 w2.heap.size (.slice p3' E.length k3) E := World.ownsRow.kept HK3.out hg (by
    cases h : (Value.slice p3' E.length k3).ownBlock with
    | none => exact .inl rfl
    | some g =>
      refine .inr (fun h2 => ?_)
      have a1 := HL3.out g h
      have a2 := HL5.out g h2.symm
      omega)
  have l10 := HX10.out.lt
  have HX11 : Hid (BxTn w w11 (.slice p1 s.cs.length c1) (.slice p2 s.ts.length c2) (.slice p3 s.ds.length c3) (.int .i64 s.clk)) := by
    have hne : (Value.slice p5 E.length k5).ownBlock ≠ some w.heap.size := fun h => by have := HL5.out _ h; omega
    have hc : ∀ o, w11.cell? ⟨w.heap.size, o, none⟩ = w10.cell? ⟨w.heap.size, o, none⟩ := fun o => World.cell?_of_block (a := ⟨w.heap.size, o, none⟩) (hg.block w.heap.size l10 (fun h => hne h.symm))
    exact ⟨HX10.out.bel.grown hg (by omega) (fun k hk => by have := HL5.out k hk; omega), by omega, (hc 0).trans HX10.out.c0, (hc 1).trans HX10.out.c1, (hc 2).trans HX10.out.c2, (hc 3).trans HX10.out.c3⟩
  have HH : Hid (Calls _ _ _ _ _) := heldIntS_any p5 k5 E.length 1 w11 (own_in K5) (by omega) (by omega)
  have HK5' : Hid (OwnI w11 W5.heap.size (.slice p5 E.length k5) (marksN 1 E.length)) := K5
  have HK3' : Hid (OwnI w11 w2.heap.size (.slice p3' E.length k3) E) := K3
  clear hg K3 K5 HK5 HK3 HX10 l10
  go_wp2_with fail
  refine HH.out.mono ?_
  rintro e w12 ⟨rfl, hb⟩
  have hk12 : ¬ (((1 + E.length : Nat) : Int) < 0) := by omega
  have z12 := hb.size
  have X12 := HX11.out.step hb
  have HX12 : Hid (BxTn w w12 (.slice p1 s.cs.length c1) (.slice p2 s.ts.length c2) (.slice p3 s.ds.length c3) (.int .i64 s.clk)) := X12
  have HR5 : Hid (OwnI w12 W5.heap.size (.slice p5 E.length k5) (marksN 1 E.length)) := owns_below HK5'.out hb
  have HR3 : Hid (OwnI w12 w2.heap.size (.slice p3' E.length k3) E) := owns_below HK3'.out hb
  clear hb HH HK5' HK3' HX11
  obtain ⟨hbx, xl, x0, x1, x2, x3⟩ := X12
  go_wp2_with fail
  refine (HTO.out _ HX12.out.bel).mono ?_
  rintro e w13 ⟨⟨ga13, gb13, gd13, rfl, O13⟩, hb⟩
  have z13 := hb.size
  have HB13 : Hid (Below w12.heap.size w12 w13) := hb
  have HO13 : Hid (Tx.MadeSto _ _ _ _ _ _) := O13.old
  clear hb O13 hbx xl x0 x1 x2 x3
  go_wp2_with fail
  refine (HI.out ga13 gb13 gd13 _ _ HO13.out).mono ?_
  rintro e w14 ⟨⟨v14, rfl, P14⟩, hb⟩
  have z14 := hb.size
  have HB14 : Hid (Below w12.heap.size w12 w14) := HB13.out.trans (hb.mono z13)
  obtain ⟨p14, k14, rfl, N14⟩ := P14.inN
  have HQ : Hid (Calls _ _ _ _ _) := eqIntS_same p14 p3' k14 k3 E w14 N14 (own_in (owns_below HR3.out HB14.out)) (by omega)
  clear hb P14 N14 HB13 HO13
  go_wp2_with fail
  refine HQ.out.mono ?_
  rintro e w15 ⟨rfl, hb⟩
  have hB15 : Below w12.heap.size w12 w15 := HB14.out.trans (hb.mono HB14.out.size)
  have HX15 : Hid (BxTn w w15 (.slice p1 s.cs.length c1) (.slice p2 s.ts.length c2) (.slice p3 s.ds.length c3) (.int .i64 s.clk)) := HX12.out.step hB15
  have HQ2 : Hid (Calls _ _ _ _ _) := heldIntS_any p5 k5 E.length 1 w15 (own_in (owns_below HR5.out hB15)) (by omega) (by omega)
  clear hb hB15 HQ HB14 HR3 HR5
  go_wp2_with fail
  refine HQ2.out.mono ?_
  rintro e w16 ⟨rfl, hb⟩
  have HB16 : Hid (Below w.heap.size w w16) := (HX15.out.step hb).bel
  clear hb HQ2 HX15 HX12
  go_wp2_with fail
  go_ret
  exact ⟨rfl, HB16.out⟩

end Go.Proofs.YtpfbepbmiillbaaGreatDoor.OpenSf

/- The law's own walk. -/
namespace Go.Proofs.YtpfbepbmiillbaaGreatDoor
open Go.ChangeShapes Go.WideShapes Go.ChangeAt Go.RowKit Go.Joins
open Go.ChangeMaps (open_string shut_string)
set_option linter.unusedVariables false
namespace OpenSf



end OpenSf
end Go.Proofs.YtpfbepbmiillbaaGreatDoor

/- The law's walk, lifted to the row. -/
namespace Go.Proofs.YtpfbepbmiillbaaGreatDoor
open Go.ChangeShapes Go.WideShapes Go.ChangeAt Go.RowKit Go.Joins
open Go.ChangeMaps (open_string shut_string)
set_option linter.unusedVariables false
namespace OpenSf
theorem own : ownKnob Tryz.prog.godebug = none := by kernel_rfl
theorem laidOut : laidOutB Tryz.prog = true := by kernel_rfl

set_option maxRecDepth 100000 in
theorem lifted (os : Os) (started : os.Started) (H : Type) (enc : TypeId × Value → H) :
    ReturnsInHanded {} Tryz.checked os 5 .any (fun w args => (Rows.fnExactOpenSessionsSpec.pre enc Tryz.prog Tryz.f5 Rows.fnExactOpenSessionsRow.domain false w args ∧ laidMetH Tryz.prog Rows.fnExactOpenSessionsRow.laid w) ∧ sizedMet enc Tryz.prog Tryz.f5 (OpenSpec.ofChange Rows.fnExactOpenSessionsSpec) false w args)
      (Rows.fnExactOpenSessionsSpec.post enc Tryz.prog Tryz.f5 false true false false) := by
  refine returnsInHanded_of_change_and (C := Tryz.checked) (X := fun w _ => laidMetH Tryz.prog Rows.fnExactOpenSessionsRow.laid w) (fun _ _ _ hh h => h.of_heap hh) own started (by kernel_rfl) Tryz.func5
    (ChangeSpec.witness_shaped (enc := enc) (C := Tryz.checked) (os := os) (X := fun w _ => laidMetH Tryz.prog Rows.fnExactOpenSessionsRow.laid w) false (World.laidAll Tryz.prog os Rows.fnExactOpenSessionsRow.laid) #[.agg #[.slice none 0 0, .slice none 0 0, .slice none 0 0, .int .i64 0]] 8 (World.laidAll_os _ _ _)
      (World.shaped_of_ZipB (by kernel_rfl) (by kernel_rfl)) (by kernel_rfl) (by kernel_rfl) (by kernel_rfl)
      (by rw [MakeChecks.laidMetH_plain _ _ _ (by kernel_rfl)]; exact laidMet_laidAll _ (by kernel_rfl) (by kernel_rfl))) ?_
  intro W base args ds gs before hval0 hW hcnd _ hL _
  have hval : ∀ (j : Nat) t v, Tryz.f5.params[j]? = some t → args[j]? = some v → Value.okWide Tryz.prog W .any base t v := hval0
  have hW' := hW
  obtain ⟨p, q, hA0, hV, rfl, hfz, hnd⟩ := hW
  have hA : DataW.TrodAll enc Tryz.prog W 0 (fun _ => true) true Tryz.f5.params.toList args.toList ds p := hA0
  rw [Tryz.params5] at hA hval
  obtain ⟨v0, vs0, d0, ds0, p0, q0, hargs, rfl, rfl, h0, r0⟩ := trodAll_cons hA
  obtain ⟨rfl, rfl, rfl⟩ := trodAll_nil r0
  obtain rfl : args = #[v0] := by cases args; simp_all
  obtain ⟨rfl, rfl⟩ := trodVars_none hV
  have k0 := h0
  have lt0 : ∀ x ∈ p0, x.block < W.heap.size := by obtain ⟨m, hm⟩ := k0; exact DataW.trod_lt m _ _ _ hm
  obtain ⟨so0, sp0, sq0, st0, cp0, cq0, ct0, rfl, hm0, i0⟩ := Tx.open_store (hval 0 26 v0 rfl rfl) h0
  clear hA0 hval0
  refine (walk sp0 sq0 st0 cp0 cq0 ct0 so0 hm0 W i0).mono fun e W' ⟨he, bel⟩ => ?_
  subst he
  exact ⟨_, rfl, _, _, _, [], _, [], hW', trodAll_mk1 (shut_bool Tryz.underlying4 _), (trodAll_cons_mk (Below.trod laidOut (by kernel_rfl) (of_decide_eq_true (by kernel_rfl)) k0 bel lt0) trodAll_mk0), rfl, bel.frame _, fun h => by cases h⟩
end OpenSf
end Go.Proofs.YtpfbepbmiillbaaGreatDoor
