/- The oldest snapshot of a store: both answers, and the law's own walk. -/
import Derived.Test.YtpfbepbmiillbaaGreatDoorDnsOQ
import Derived.Test.YtpfbepbmiillbaaGreatDoorRows
import Derived.Test.YtpfbepbmiillbaaGreatDoorTie
import Derived.Test.YtpfbepbmiillbaaGreatDoorCards
import Derived.LaidMore
import Derived.Lay
import Derived.Stop.Joined
import Derived.SevenTiedAt
import Derived.ProofKit
import Derived.OpenShut
import Derived.ShutString
import Derived.ChangeOld
import Derived.Below
import Derived.Lib.SmallJoins
namespace Go.Proofs.YtpfbepbmiillbaaGreatDoor.Tx
open Go.RowKit Tr Co Rea Ce
set_option linter.unusedVariables false

def mn2 (a b : Int) : Int := min a b
def olX (a : Int) (l : List Tn) : Int := l.foldl (fun a t => mn2 a t.sp) a
theorem olX_step (a : Int) (l : List Tn) (k : Nat) (h : k < l.length) : olX a (l.take (k + 1)) = mn2 (olX a (l.take k)) l[k].sp := by
  unfold olX; rw [List.take_succ_eq_append_getElem h, List.foldl_append]; rfl
def oldR (s : Sto) : Int × Int := if stoB s = true then (olX s.clk s.ts, 0) else (0, 1)

set_option maxRecDepth 4000 in
set_option maxHeartbeats 2000000 in
theorem l11Oldest_any (bs gc gt gd cc ct cd : Nat) (s : Sto) (w : World) (hm : MadeSto w bs gc gt gd s) (hz : SzSto s) :
    Calls Tryz.prog 46 #[.agg #[.slice (some ⟨gc, 0, none⟩) s.cs.length cc, .slice (some ⟨gt, 0, none⟩) s.ts.length ct, .slice (some ⟨gd, 0, none⟩) s.ds.length cd, .int .i64 s.clk]] w fun e w' => e = .returned (.int .i64 (olX s.clk s.ts)) ∧ Below w.heap.size w w' := by
  have X0 := BxTn.start w (.slice (some ⟨gc, 0, none⟩) s.cs.length cc) (.slice (some ⟨gt, 0, none⟩) s.ts.length ct) (.slice (some ⟨gd, 0, none⟩) s.ds.length cd) (.int .i64 s.clk) 33
  have HM : Hid (MadeSto _ _ _ _ _ _) := hm.next X0.bel
  have hl := hz.t0
  clear hm hz
  obtain ⟨hb0, xl, k0, k1, k2, k3⟩ := id X0
  go_enter Tryz.func46, Tryz.ntmps46
  go_wp2_with fail
  generalize w.alloc (.cells #[.slice (some ⟨gc, 0, none⟩) s.cs.length cc, .slice (some ⟨gt, 0, none⟩) s.ts.length ct, .slice (some ⟨gd, 0, none⟩) s.ds.length cd, .int .i64 s.clk] 33) = W0 at X0 HM hb0 xl k0 k1 k2 k3 ⊢
  clear k0 k1 k2 k3 xl
  go_loopw [4, 3] (fun i o wr => ∃ k : Nat, k ≤ s.ts.length ∧ i = .int .i64 k ∧ o = .int .i64 (olX s.clk (s.ts.take k)) ∧ Below W0.heap.size W0 wr) (fun i _ _ => s.ts.length - (intOf i).toNat)
  case atStart => exact ⟨0, Nat.zero_le _, rfl, rfl, Below.refl _ _⟩
  case round =>
    obtain ⟨k, hk, rfl, rfl, hbl⟩ := hrel
    obtain ⟨_, xl, k0, k1, k2, k3⟩ := X0.step hbl
    by_cases hlt : k < s.ts.length
    · have hlt2 : (k : Int) < (s.ts.length : Int) := by omega
      have R1 := HM.out.t.next hbl
      obtain ⟨gr, gw, ⟨x0, x1, x2, x3⟩, _, _, _⟩ := R1.cells k hlt
      have hg1 := R1.lt
      have hst := olX_step s.clk s.ts k hlt
      obtain ⟨x, hx⟩ : ∃ x, x = s.ts[k] := ⟨_, rfl⟩
      rw [← hx] at x0 x1 x2 x3 hst
      have HST : Hid (_ = _) := hst
      clear R1 hx hst
      go_wp2_with fail
      go_roundw
      case rel => exact ⟨k + 1, by omega, by go_num, by rw [HST.out]; rfl, hbl⟩
      case measure => simp [intOf]; omega
    · have hlt2 : ¬ (k : Int) < (s.ts.length : Int) := by omega
      have hal : olX s.clk (s.ts.take k) = olX s.clk s.ts := by rw [List.take_of_length_le (by omega)]
      rw [hal]
      have hbw := hb0.trans (hbl.mono hb0.size)
      clear hal
      go_wp2_with fail
      go_ret
      exact ⟨rfl, hbw⟩

set_option maxRecDepth 4000 in
set_option maxHeartbeats 2000000 in
theorem oldestM_any (b bs gc gt gd cc ct cd : Nat) (s : Sto) (w : World) (hm : MadeSto w bs gc gt gd s) (hz : SzSto s) (hl0 : b < w.heap.size) (c1 : w.cell? ⟨b, 1, none⟩ = some (.slice (some ⟨gt, 0, none⟩) s.ts.length ct)) (c3 : w.cell? ⟨b, 3, none⟩ = some (.int .i64 s.clk)) :
    Calls Tryz.prog 47 #[.pointer (some ⟨b, 0, none⟩)] w fun e w' => e = .returned (.int .i64 (olX s.clk s.ts)) ∧ Below w.heap.size w w' := by
  have HM : Hid (MadeSto _ _ _ _ _ _) := hm
  have hl := hz.t0
  clear hm hz
  have hb0 : Below w.heap.size w w := Below.refl _ _
  go_enter Tryz.func47, Tryz.ntmps47
  go_wp2_with fail
  clear c1 c3 hl0
  go_loopw [15, 3] (fun i o wr => ∃ k : Nat, k ≤ s.ts.length ∧ i = .int .i64 k ∧ o = .int .i64 (olX s.clk (s.ts.take k)) ∧ Below w.heap.size w wr) (fun i _ _ => s.ts.length - (intOf i).toNat)
  case atStart => exact ⟨0, Nat.zero_le _, rfl, rfl, Below.refl _ _⟩
  case round =>
    obtain ⟨k, hk, rfl, rfl, hbl⟩ := hrel
    by_cases hlt : k < s.ts.length
    · have hlt2 : (k : Int) < (s.ts.length : Int) := by omega
      have R1 := HM.out.t.next hbl
      obtain ⟨gr, gw, ⟨x0, x1, x2, x3⟩, _, _, _⟩ := R1.cells k hlt
      have hg1 := R1.lt
      have hst := olX_step s.clk s.ts k hlt
      obtain ⟨x, hx⟩ : ∃ x, x = s.ts[k] := ⟨_, rfl⟩
      rw [← hx] at x0 x1 x2 x3 hst
      have HST : Hid (_ = _) := hst
      clear R1 hx hst
      have hbA : Below wr.heap.size wr (wr.alloc (.cells #[.int .i64 x.sn, .int .i64 x.sp, .slice (some ⟨gr, 0, none⟩) x.rs.length x.rs.length, .slice (some ⟨gw, 0, none⟩) x.cs.length x.cs.length] 75)) := (Below.refl _ _).alloc (Nat.le_refl _) _
      have hbB := hbl.trans (hbA.mono hbl.size)
      clear hbA
      go_wp2_with fail
      go_roundw
      case rel => exact ⟨k + 1, by omega, by go_num, by rw [HST.out]; rfl, hbB⟩
      case measure => simp [intOf]; omega
    · have hlt2 : ¬ (k : Int) < (s.ts.length : Int) := by omega
      have hal : olX s.clk (s.ts.take k) = olX s.clk s.ts := by rw [List.take_of_length_le (by omega)]
      rw [hal]
      have hbw := hb0.trans (hbl.mono hb0.size)
      clear hal
      go_wp2_with fail
      go_ret
      exact ⟨rfl, hbw⟩

set_option maxRecDepth 4000 in
set_option maxHeartbeats 2000000 in
theorem specOldest_any (bs gc gt gd cc ct cd : Nat) (s : Sto) (w : World) (hm : MadeSto w bs gc gt gd s) (hz : SzSto s) :
    Calls Tryz.prog 13 #[.agg #[.slice (some ⟨gc, 0, none⟩) s.cs.length cc, .slice (some ⟨gt, 0, none⟩) s.ts.length ct, .slice (some ⟨gd, 0, none⟩) s.ds.length cd, .int .i64 s.clk]] w fun e w' => e = .returned (.tuple #[.int .i64 (oldR s).1, .int .i64 (oldR s).2]) ∧ Below w.heap.size w w' := by
  have X0 := BxTn.start w (.slice (some ⟨gc, 0, none⟩) s.cs.length cc) (.slice (some ⟨gt, 0, none⟩) s.ts.length ct) (.slice (some ⟨gd, 0, none⟩) s.ds.length cd) (.int .i64 s.clk) 33
  have HS : Hid (Calls _ _ _ _ _) := specStoB_any bs gc gt gd cc ct cd s _ (hm.next X0.bel) hz
  have HO : Hid (∀ W : World, Below w.heap.size w W → Calls _ _ _ W _) := fun W hW => l11Oldest_any bs gc gt gd cc ct cd s W (hm.next hW) hz
  clear hm hz
  obtain ⟨B, hB⟩ : ∃ B, B = stoB s := ⟨_, rfl⟩
  have HR : Hid (oldR s = if B = true then (olX s.clk s.ts, 0) else (0, 1)) := by rw [hB]; exact rfl
  rw [← hB] at HS
  clear hB
  obtain ⟨O, hO⟩ : ∃ O, O = olX s.clk s.ts := ⟨_, rfl⟩
  rw [← hO] at HO HR
  clear hO
  obtain ⟨P, hP⟩ : ∃ P, P = oldR s := ⟨_, rfl⟩
  rw [← hP] at HR ⊢
  clear hP
  go_enter Tryz.func13, Tryz.ntmps13
  obtain ⟨_, xl, k0, k1, k2, k3⟩ := id X0
  go_wp2_with fail
  refine HS.out.mono ?_
  rintro e w1 ⟨rfl, hb⟩
  have X1 := X0.step hb
  clear hb X0 HS xl k0 k1 k2 k3
  obtain ⟨_, xl, k0, k1, k2, k3⟩ := id X1
  cases B
  · have HF : Hid (P = (0, 1)) := HR.out
    clear HR
    have hbw := X1.bel
    go_wp2_with fail
    go_ret2
    exact ⟨by rw [HF.out]; rfl, hbw⟩
  · have HF : Hid (P = (O, 0)) := HR.out
    clear HR
    go_wp2_with fail
    refine (HO.out _ X1.bel).mono ?_
    rintro e w2 ⟨rfl, hb⟩
    have hbw := (X1.step hb).bel
    clear hb
    go_wp2_with fail
    go_ret2
    exact ⟨by rw [HF.out]; rfl, hbw⟩

set_option maxRecDepth 4000 in
set_option maxHeartbeats 2000000 in
theorem implOldest_any (bs gc gt gd cc ct cd : Nat) (s : Sto) (w : World) (hm : MadeSto w bs gc gt gd s) (hz : SzSto s) :
    Calls Tryz.prog 14 #[.agg #[.slice (some ⟨gc, 0, none⟩) s.cs.length cc, .slice (some ⟨gt, 0, none⟩) s.ts.length ct, .slice (some ⟨gd, 0, none⟩) s.ds.length cd, .int .i64 s.clk]] w fun e w' => e = .returned (.tuple #[.int .i64 (oldR s).1, .int .i64 (oldR s).2]) ∧ Below w.heap.size w w' := by
  have X0 := BxTn.start w (.slice (some ⟨gc, 0, none⟩) s.cs.length cc) (.slice (some ⟨gt, 0, none⟩) s.ts.length ct) (.slice (some ⟨gd, 0, none⟩) s.ds.length cd) (.int .i64 s.clk) 33
  have HS : Hid (Calls _ _ _ _ _) := storeOK_any bs gc gt gd cc ct cd s _ (hm.next X0.bel) hz
  have HO : Hid (∀ W : World, BxTn w W (.slice (some ⟨gc, 0, none⟩) s.cs.length cc) (.slice (some ⟨gt, 0, none⟩) s.ts.length ct) (.slice (some ⟨gd, 0, none⟩) s.ds.length cd) (.int .i64 s.clk) → Calls _ _ _ W _) := fun W hW => oldestM_any w.heap.size bs gc gt gd cc ct cd s W (hm.next hW.bel) hz hW.lt hW.c1 hW.c3
  clear hm hz
  obtain ⟨B, hB⟩ : ∃ B, B = stoB s := ⟨_, rfl⟩
  have HR : Hid (oldR s = if B = true then (olX s.clk s.ts, 0) else (0, 1)) := by rw [hB]; exact rfl
  rw [← hB] at HS
  clear hB
  obtain ⟨O, hO⟩ : ∃ O, O = olX s.clk s.ts := ⟨_, rfl⟩
  rw [← hO] at HO HR
  clear hO
  obtain ⟨P, hP⟩ : ∃ P, P = oldR s := ⟨_, rfl⟩
  rw [← hP] at HR ⊢
  clear hP
  go_enter Tryz.func14, Tryz.ntmps14
  obtain ⟨_, xl, k0, k1, k2, k3⟩ := id X0
  go_wp2_with fail
  refine HS.out.mono ?_
  rintro e w1 ⟨rfl, hb⟩
  have X1 := X0.step hb
  clear hb X0 HS xl k0 k1 k2 k3
  cases B
  · have HF : Hid (P = (0, 1)) := HR.out
    clear HR
    have hbw := X1.bel
    go_wp2_with fail
    go_ret2
    exact ⟨by rw [HF.out]; rfl, hbw⟩
  · have HF : Hid (P = (O, 0)) := HR.out
    clear HR
    go_wp2_with fail
    refine (HO.out _ X1).mono ?_
    rintro e w2 ⟨rfl, hb⟩
    have hbw := (X1.step hb).bel
    clear hb
    go_wp2_with fail
    go_ret2
    exact ⟨by rw [HF.out]; rfl, hbw⟩

end Go.Proofs.YtpfbepbmiillbaaGreatDoor.Tx
namespace Go.Proofs.YtpfbepbmiillbaaGreatDoor.OldSnapf
open Go.RowKit Tr Co Rea Ce Tx
set_option linter.unusedVariables false

set_option maxRecDepth 8000 in
set_option maxHeartbeats 4000000 in
theorem walk (p1 p2 p3 : Option Addr) (c1 c2 c3 : Nat) (s : Sto) (hm : MaxSto s) (w : World) (hin : InSto w p1 p2 p3 s) :
    Calls Tryz.prog 4 #[.agg #[.slice p1 s.cs.length c1, .slice p2 s.ts.length c2, .slice p3 s.ds.length c3, .int .i64 s.clk]] w fun e w' => e = .returned (.bool true) ∧ Below w.heap.size w w' := by
  have X0 := BxTn.start w (.slice p1 s.cs.length c1) (.slice p2 s.ts.length c2) (.slice p3 s.ds.length c3) (.int .i64 s.clk) 26
  have HZ : Hid (∀ W : World, Below w.heap.size w W → Calls _ _ _ W _) := fun W hW => szStore_any p1 p2 p3 c1 c2 c3 s 1048576 W (hin.step hW) hm (by omega) (by omega)
  clear hm
  go_enter Tryz.func4, Tryz.ntmps4
  go_wp2_with fail
  refine (HZ.out _ X0.bel).mono ?_
  rintro e w1 ⟨⟨r, rfl, hr⟩, hb⟩
  have X1 := X0.step hb
  clear hb HZ X0
  rcases hr with hneg | ⟨hr0, hr1, hsz⟩
  · have hbw := X1.bel
    go_wp2_with fail
    go_ret
    exact ⟨rfl, hbw⟩
  have hnn : ¬ r < 0 := by omega
  have HSZ : Hid (SzSto s) := hsz
  have HTO : Hid (∀ W : World, Below w.heap.size w W → Calls _ _ _ W _) := fun W hW => toStore_any p1 p2 p3 c1 c2 c3 s W (hin.step hW) hsz
  have HS : Hid (∀ (ga gb gd b : Nat) (W : World), MadeSto W b ga gb gd s → Calls _ _ _ W _) := fun ga gb gd b W hW => specOldest_any b ga gb gd s.cs.length s.ts.length s.ds.length s W hW hsz
  have HI : Hid (∀ (ga gb gd b : Nat) (W : World), MadeSto W b ga gb gd s → Calls _ _ _ W _) := fun ga gb gd b W hW => implOldest_any b ga gb gd s.cs.length s.ts.length s.ds.length s W hW hsz
  obtain ⟨P1, hP1⟩ : ∃ P, P = (oldR s).1 := ⟨_, rfl⟩
  obtain ⟨P2, hP2⟩ : ∃ P, P = (oldR s).2 := ⟨_, rfl⟩
  rw [← hP1, ← hP2] at HS HI
  clear hP1 hP2
  clear hsz hr1 hin
  obtain ⟨B1, L1, x0, x1, x2, x3⟩ := id X1
  go_wp2_with fail
  refine (HTO.out _ X1.bel).mono ?_
  rintro e w2 ⟨⟨ga2, gb2, gd2, rfl, O2⟩, hb⟩
  have X2 := X1.step hb
  have HO2 : Hid (MadeSto _ _ _ _ _ _) := O2
  clear hb X1 B1 L1 x0 x1 x2 x3 O2
  go_wp2_with fail
  refine (HS.out ga2 gb2 gd2 _ _ HO2.out).mono ?_
  rintro e w3 ⟨rfl, hb⟩
  have X3 := X2.step hb
  clear hb X2 HO2
  obtain ⟨B3, L3, x0, x1, x2, x3⟩ := id X3
  go_wp2_with fail
  refine (HTO.out _ X3.bel).mono ?_
  rintro e w4 ⟨⟨ga, gb, gd, rfl, O4⟩, hb⟩
  have hbA : Below w4.heap.size w4 (w4.alloc (.cells #[.slice (some ⟨ga, 0, none⟩) s.cs.length s.cs.length, .slice (some ⟨gb, 0, none⟩) s.ts.length s.ts.length, .slice (some ⟨gd, 0, none⟩) s.ds.length s.ds.length, .int .i64 s.clk] 33)) := (Below.refl _ _).alloc (Nat.le_refl _) _
  have X5 := (X3.step hb).step hbA
  have HO5 : Hid (MadeSto _ _ _ _ _ _) := O4.next hbA
  have Y5 := BxTn.start w4 (.slice (some ⟨ga, 0, none⟩) s.cs.length s.cs.length) (.slice (some ⟨gb, 0, none⟩) s.ts.length s.ts.length) (.slice (some ⟨gd, 0, none⟩) s.ds.length s.ds.length) (.int .i64 s.clk) 33
  clear hb X3 B3 L3 x0 x1 x2 x3 O4 hbA
  go_wp2_with fail
  generalize w4.alloc (.cells #[.slice (some ⟨ga, 0, none⟩) s.cs.length s.cs.length, .slice (some ⟨gb, 0, none⟩) s.ts.length s.ts.length, .slice (some ⟨gd, 0, none⟩) s.ds.length s.ds.length, .int .i64 s.clk] 33) = W5 at X5 HO5 Y5 ⊢
  refine (HI.out ga gb gd _ _ HO5.out).mono ?_
  rintro e w6 ⟨rfl, hb⟩
  have X6 := X5.step hb
  have HO6 : Hid (MadeSto w6 _ ga gb gd s) := HO5.out.next hb
  obtain ⟨_, m6, y0, y1, y2, y3⟩ := Y5.step hb
  clear hb X5 HO5 Y5
  obtain ⟨bx, hbx⟩ : ∃ bx, bx = w4.heap.size := ⟨_, rfl⟩
  rw [← hbx] at y0 y1 y2 y3 m6 ⊢
  clear hbx
  all_goals
    go_wp2_with fail
    go_region_held3 (fun w0 => w0.cell? ⟨w.heap.size, 0, none⟩ = some (.slice p1 s.cs.length c1) ∧ w0.cell? ⟨w.heap.size, 1, none⟩ = some (.slice p2 s.ts.length c2) ∧ w0.cell? ⟨w.heap.size, 2, none⟩ = some (.slice p3 s.ds.length c3) ∧ w0.cell? ⟨w.heap.size, 3, none⟩ = some (.int .i64 s.clk) ∧ w0.cell? ⟨bx, 0, none⟩ = some (.slice (some ⟨ga, 0, none⟩) s.cs.length s.cs.length) ∧ w0.cell? ⟨bx, 1, none⟩ = some (.slice (some ⟨gb, 0, none⟩) s.ts.length s.ts.length) ∧ w0.cell? ⟨bx, 2, none⟩ = some (.slice (some ⟨gd, 0, none⟩) s.ds.length s.ds.length) ∧ w0.cell? ⟨bx, 3, none⟩ = some (.int .i64 s.clk)) ((refine keepSt X6 m6 y0 y1 y2 y3 ?_; (repeat (first | (with_reducible exact Below.refl _ _) | (with_reducible assumption) | (with_reducible apply below_drewN) | (with_reducible apply Below.drew) | ((with_reducible refine Below.setCell ?_ ?_ _); rotate_left; focus (first | (simp; done) | (simp; omega) | omega)) | ((with_reducible refine Below.alloc ?_ ?_ _); rotate_left; focus (first | (simp; done) | (simp; omega) | omega)))))) (first | (go_at_call 10; refine (HTO.out _ (X6.bel.trans ((show Below w6.heap.size w6 _ by (repeat (first | (with_reducible exact Below.refl _ _) | (with_reducible assumption) | (with_reducible apply below_drewN) | (with_reducible apply Below.drew) | ((with_reducible refine Below.setCell ?_ ?_ _); rotate_left; focus (first | (simp; done) | (simp; omega) | omega)) | ((with_reducible refine Below.alloc ?_ ?_ _); rotate_left; focus (first | (simp; done) | (simp; omega) | omega))))).mono X6.bel.size))).mono ?_; rintro e w7 ⟨⟨ga7, gb7, gd7, rfl, O7⟩, hb⟩; have hB7 : Below w6.heap.size w6 w7 := (show Below w6.heap.size w6 _ by (repeat (first | (with_reducible exact Below.refl _ _) | (with_reducible assumption) | (with_reducible apply below_drewN) | (with_reducible apply Below.drew) | ((with_reducible refine Below.setCell ?_ ?_ _); rotate_left; focus (first | (simp; done) | (simp; omega) | omega)) | ((with_reducible refine Below.alloc ?_ ?_ _); rotate_left; focus (first | (simp; done) | (simp; omega) | omega))))).trans (hb.mono (by simp)); have HO7 : Hid (MadeSto w7 _ ga7 gb7 gd7 s) := O7; clear hb O7) | (go_at_call 12; refine (eqStore_same _ _ _ _ _ _ _ _ s _ (HO6.out.next hB7) HO7.out HSZ.out).mono ?_; rintro e w8 ⟨rfl, hb⟩; have hB8 : Below w6.heap.size w6 w8 := hB7.trans (hb.mono hB7.size); clear hb))
    have hbw := (X6.step hB8).bel
    go_wp2_with fail
    go_ret
    exact ⟨rfl, hbw⟩

end Go.Proofs.YtpfbepbmiillbaaGreatDoor.OldSnapf

/- The law's own walk. -/
namespace Go.Proofs.YtpfbepbmiillbaaGreatDoor
open Go.ChangeShapes Go.WideShapes Go.ChangeAt Go.RowKit Go.Joins
open Go.ChangeMaps (open_string shut_string)
set_option linter.unusedVariables false
namespace OldSnapf



end OldSnapf
end Go.Proofs.YtpfbepbmiillbaaGreatDoor

/- The law's walk, lifted to the row. -/
namespace Go.Proofs.YtpfbepbmiillbaaGreatDoor
open Go.ChangeShapes Go.WideShapes Go.ChangeAt Go.RowKit Go.Joins
open Go.ChangeMaps (open_string shut_string)
set_option linter.unusedVariables false
namespace OldSnapf
theorem own : ownKnob Tryz.prog.godebug = none := by kernel_rfl
theorem laidOut : laidOutB Tryz.prog = true := by kernel_rfl

set_option maxRecDepth 100000 in
theorem lifted (os : Os) (started : os.Started) (H : Type) (enc : TypeId × Value → H) :
    ReturnsInHanded {} Tryz.checked os 4 .any (fun w args => (Rows.fnExactOldestSnapSpec.pre enc Tryz.prog Tryz.f4 Rows.fnExactOldestSnapRow.domain false w args ∧ laidMetH Tryz.prog Rows.fnExactOldestSnapRow.laid w) ∧ sizedMet enc Tryz.prog Tryz.f4 (OpenSpec.ofChange Rows.fnExactOldestSnapSpec) false w args)
      (Rows.fnExactOldestSnapSpec.post enc Tryz.prog Tryz.f4 false true false false) := by
  refine returnsInHanded_of_change_and (C := Tryz.checked) (X := fun w _ => laidMetH Tryz.prog Rows.fnExactOldestSnapRow.laid w) (fun _ _ _ hh h => h.of_heap hh) own started (by kernel_rfl) Tryz.func4
    (ChangeSpec.witness_shaped (enc := enc) (C := Tryz.checked) (os := os) (X := fun w _ => laidMetH Tryz.prog Rows.fnExactOldestSnapRow.laid w) false (World.laidAll Tryz.prog os Rows.fnExactOldestSnapRow.laid) #[.agg #[.slice none 0 0, .slice none 0 0, .slice none 0 0, .int .i64 0]] 8 (World.laidAll_os _ _ _)
      (World.shaped_of_ZipB (by kernel_rfl) (by kernel_rfl)) (by kernel_rfl) (by kernel_rfl) (by kernel_rfl)
      (by rw [MakeChecks.laidMetH_plain _ _ _ (by kernel_rfl)]; exact laidMet_laidAll _ (by kernel_rfl) (by kernel_rfl))) ?_
  intro W base args ds gs before hval0 hW hcnd _ hL _
  have hval : ∀ (j : Nat) t v, Tryz.f4.params[j]? = some t → args[j]? = some v → Value.okWide Tryz.prog W .any base t v := hval0
  have hW' := hW
  obtain ⟨p, q, hA0, hV, rfl, hfz, hnd⟩ := hW
  have hA : DataW.TrodAll enc Tryz.prog W 0 (fun _ => true) true Tryz.f4.params.toList args.toList ds p := hA0
  rw [Tryz.params4] at hA hval
  obtain ⟨v0, vs0, d0, ds0, p0, q0, hargs, rfl, rfl, h0, r0⟩ := trodAll_cons hA
  obtain ⟨rfl, rfl, rfl⟩ := trodAll_nil r0
  obtain rfl : args = #[v0] := by cases args; simp_all
  obtain ⟨rfl, rfl⟩ := trodVars_none hV
  have k0 := h0
  have lt0 : ∀ x ∈ p0, x.block < W.heap.size := by obtain ⟨m, hm⟩ := k0; exact DataW.trod_lt m _ _ _ hm
  obtain ⟨so0, sp0, sq0, st0, cp0, cq0, ct0, rfl, hm0, i0⟩ := Tx.open_store (hval 0 26 v0 rfl rfl) h0
  clear hA0 hval0
  refine (walk sp0 sq0 st0 cp0 cq0 ct0 so0 hm0 W i0).mono fun e W' ⟨he, bel⟩ => ?_
  subst he
  exact ⟨_, rfl, _, _, _, [], _, [], hW', trodAll_mk1 (shut_bool Tryz.underlying4 _), (trodAll_cons_mk (Below.trod laidOut (by kernel_rfl) (of_decide_eq_true (by kernel_rfl)) k0 bel lt0) trodAll_mk0), rfl, bel.frame _, fun h => by cases h⟩
end OldSnapf
end Go.Proofs.YtpfbepbmiillbaaGreatDoor
