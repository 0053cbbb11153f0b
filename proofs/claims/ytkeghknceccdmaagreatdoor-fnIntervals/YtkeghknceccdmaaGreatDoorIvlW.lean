/- The law on intervals, walked (whole). -/
import Derived.Test.YtkeghknceccdmaaGreatDoorIvlO
import Derived.Test.YtkeghknceccdmaaGreatDoorIvlD
import Derived.Test.YtkeghknceccdmaaGreatDoorIvlN
import Derived.Test.YtkeghknceccdmaaGreatDoorTintK
import Derived.Test.YtkeghknceccdmaaGreatDoorDocK
import Derived.Test.YtkeghknceccdmaaGreatDoorTermV
import Derived.BigQuiet
import Derived.Deep.Cut
namespace Go.Proofs.YtkeghknceccdmaaGreatDoor
open Go.RowKit
set_option linter.unusedVariables false

theorem bk_step {W W' : World} {b : Nat} {o : Obj} (h : W.heap[b]? = some o) (hb : Below W.heap.size W W') : W'.heap[b]? = some o := (hb.block _ (Array.getElem?_eq_some_iff.1 h).1).trans h
theorem bk_lt {W : World} {b : Nat} {o : Obj} (h : W.heap[b]? = some o) : b < W.heap.size := (Array.getElem?_eq_some_iff.1 h).1
theorem bk_cell {W : World} {b : Nat} {cs : Array Value} {T : TypeId} {v : Value} (h : W.heap[b]? = some (.cells cs T)) (j : Nat) (hv : cs[j]? = some v) : W.cell? ⟨b, j, none⟩ = some v := by simp [World.cell?, h, hv]
theorem bk_set {W : World} {b j : Nat} {cs : Array Value} {T : TypeId} {v : Value} (h : W.heap[b]? = some (.cells cs T)) : (W.setCell ⟨b, j, none⟩ v).heap[b]? = some (.cells (cs.setIfInBounds j v) T) := set_block h
theorem bk_off {W : World} {b c j : Nat} {o : Obj} {v : Value} (h : W.heap[b]? = some o) (hne : b ≠ c) : (W.setCell ⟨c, j, none⟩ v).heap[b]? = some o := by
  have : c ≠ b := fun e => hne e.symm
  simp [World.setCell, Array.getElem?_modify, this, h]
theorem bk_soft {W : World} {b : Nat} {cs : Array Value} {T : TypeId} (h : W.heap[b]? = some (.cells cs T)) (j : Nat) : W.frozen? ⟨b, j, none⟩ = false := by simp [World.frozen?, h]
theorem has_short {i : Ivl} {k : ByteArray} (h : k.size ≤ 6622) : hasP i k = hasI i k := by unfold hasP; rw [decide_eq_true (by omega)]; rfl
theorem meet_size (a b : Ivl) (h1 : a.lo.size ≤ 6622 ∧ a.hi.size ≤ 6622) (h2 : b.lo.size ≤ 6622 ∧ b.hi.size ≤ 6622) : (meetI a b).lo.size ≤ 6622 ∧ (meetI a b).hi.size ≤ 6622 := by
  unfold meetI hiM Lib.maxS Lib.minS
  refine ⟨?_, ?_⟩
  · show (if _ then _ else _ : ByteArray).size ≤ _
    split
    · exact h2.1
    · exact h1.1
  · show (if _ then _ else _ : ByteArray).size ≤ _
    split
    · split
      · decide
      · exact h2.2
    · split
      · exact h1.2
      · split
        · exact h1.2
        · exact h2.2
theorem dir_size (v : Val) (d : Bool) (h : okB v = true) : (mkB (dirK d (keyV 5 v))).size ≤ 6622 := by
  have := key_size v h
  rw [mkB_size] at this ⊢
  unfold dirK
  cases d
  · exact this
  · simp only [if_true]; rw [turnL_len]; exact this

set_option maxRecDepth 8000 in
set_option maxHeartbeats 16000000 in
theorem lawIntervals (x x' : Option Addr) (cap cap' : Nat) (zs zs' : List Int) (w : World) (hin : InB w x zs) (hin' : InB w x' zs') (hby : ∀ i, i < zs.length → 0 ≤ zs.getD i 0 ∧ zs.getD i 0 < 256) (hby' : ∀ i, i < zs'.length → 0 ≤ zs'.getD i 0 ∧ zs'.getD i 0 < 256)
    (hm : zs.length ≤ maxLen) (hm' : zs'.length ≤ maxLen) :
    Calls Tryz.prog 3 #[.slice x zs.length cap, .slice x' zs'.length cap'] w fun e w' => e = .returned (.bool true) ∧ Below w.heap.size w w' := by
  have HIN : Hid _ := hin
  have HIN' : Hid _ := hin'
  have HBY : Hid _ := hby
  have HBY' : Hid _ := hby'
  unfold maxLen at hm hm'
  clear hin hin' hby hby'
  by_cases h1 : (1048576 : Int) < zs.length
  · go_enter Tryz.func3, Tryz.ntmps3
    go_wp2_with fail
    go_ret
    exact ⟨rfl, Below.refl _ _⟩
  by_cases h2 : (1048576 : Int) < zs'.length
  · go_enter Tryz.func3, Tryz.ntmps3
    go_wp2_with fail
    go_ret
    exact ⟨rfl, Below.refl _ _⟩
  have C1 : Hid (InC w x zs) := (⟨HIN.out, HBY.out, by omega⟩ : InC w x zs)
  have C2 : Hid (InC w x' zs') := (⟨HIN'.out, HBY'.out, by omega⟩ : InC w x' zs')
  have HLZ : Hid (zs'.length ≤ 1048576) := (by omega : zs'.length ≤ 1048576)
  clear HIN HIN' HBY HBY'
  go_enter Tryz.func3, Tryz.ntmps3
  go_wp2_with fail
  refine (intervalT_any x cap zs _ C1.out).mono ?_
  rintro e w1 ⟨⟨a, rfl, ha⟩, b1⟩
  have HA : Hid (a.lo.size ≤ 6622 ∧ a.hi.size ≤ 6622) := ha
  have A : Hid ((_ : Option Obj) = _) := heap_alloc_new w1 (.cells #[.string a.lo, .string a.hi, .bool a.op] 24)
  have BW : Hid (Below w.heap.size w _) := b1.alloc b1.size (.cells #[.string a.lo, .string a.hi, .bool a.op] 24)
  clear ha b1
  go_wp2_with fail
  generalize w1.alloc (.cells #[.string a.lo, .string a.hi, .bool a.op] 24) = W1 at A BW ⊢
  generalize w1.heap.size = ba at A ⊢
  refine (intervalT_any x' cap' zs' _ (C2.out.step BW.out)).mono ?_
  rintro e w2 ⟨⟨b, rfl, hb0⟩, b2⟩
  have HB : Hid (b.lo.size ≤ 6622 ∧ b.hi.size ≤ 6622) := hb0
  have An : Hid (_ = _) := bk_step A.out b2
  clear A
  have A := An
  clear An
  have BWn : Hid (Below w.heap.size w _) := BW.out.trans (b2.mono BW.out.size)
  clear BW
  have BW := BWn
  clear BWn
  have B : Hid ((_ : Option Obj) = _) := heap_alloc_new w2 (.cells #[.string b.lo, .string b.hi, .bool b.op] 24)
  have hal : Below w2.heap.size w2 (w2.alloc (.cells #[.string b.lo, .string b.hi, .bool b.op] 24)) := (Below.refl _ _).alloc (Nat.le_refl _) _
  clear hb0 b2
  have An : Hid (_ = _) := bk_step A.out hal
  clear A
  have A := An
  clear An
  have BWn : Hid (Below w.heap.size w _) := BW.out.trans (hal.mono BW.out.size)
  clear BW
  have BW := BWn
  clear BWn
  clear hal
  go_upto_region 5 with fail
  generalize w2.alloc (.cells #[.string b.lo, .string b.hi, .bool b.op] 24) = W2 at A B BW ⊢
  generalize w2.heap.size = bb at B ⊢
  have cA0 := bk_cell (v := .string a.lo) A.out 0 rfl
  have cA1 := bk_cell (v := .string a.hi) A.out 1 rfl
  have cA2 := bk_cell (v := .bool a.op) A.out 2 rfl
  have cB0 := bk_cell (v := .string b.lo) B.out 0 rfl
  have cB1 := bk_cell (v := .string b.hi) B.out 1 rfl
  have cB2 := bk_cell (v := .bool b.op) B.out 2 rfl
  have HMC : Hid (Calls _ _ _ _ _) := implMeet_any a b W2 (by have := HA.out; omega) (by have := HA.out; omega) (by have := HB.out; omega) (by have := HB.out; omega)
  have HSM : Hid (∀ W : World, Calls _ _ _ W _) := fun W => specMeet_any a b W
  obtain ⟨m, hmm⟩ : ∃ m, m = meetI a b := ⟨_, rfl⟩
  rw [← hmm] at HMC HSM
  have HMM : Hid (m = _) := hmm
  have HM : Hid (m.lo.size ≤ 6622 ∧ m.hi.size ≤ 6622) := by rw [hmm]; exact meet_size a b HA.out HB.out
  clear hmm
  go_wp2_with fail
  refine HMC.out.mono ?_
  rintro e w3 ⟨rfl, b3⟩
  clear HMC
  clear cA0 cA1 cA2 cB0 cB1 cB2
  have An : Hid (_ = _) := bk_step A.out b3
  have Bn : Hid (_ = _) := bk_step B.out b3
  clear A
  have A := An
  clear An
  clear B
  have B := Bn
  clear Bn
  have BWn : Hid (Below w.heap.size w _) := BW.out.trans (b3.mono BW.out.size)
  clear BW
  have BW := BWn
  clear BWn
  have M : Hid ((_ : Option Obj) = _) := heap_alloc_new w3 (.cells #[.string m.lo, .string m.hi, .bool m.op] 24)
  have hal : Below w3.heap.size w3 (w3.alloc (.cells #[.string m.lo, .string m.hi, .bool m.op] 24)) := (Below.refl _ _).alloc (Nat.le_refl _) _
  clear b3
  have An : Hid (_ = _) := bk_step A.out hal
  have Bn : Hid (_ = _) := bk_step B.out hal
  clear A
  have A := An
  clear An
  clear B
  have B := Bn
  clear Bn
  have BWn : Hid (Below w.heap.size w _) := BW.out.trans (hal.mono BW.out.size)
  clear BW
  have BW := BWn
  clear BWn
  clear hal
  go_wp2_with fail
  generalize w3.alloc (.cells #[.string m.lo, .string m.hi, .bool m.op] 24) = W3 at A B M BW ⊢
  generalize w3.heap.size = bm at M ⊢
  have lA := bk_lt A.out
  have uA0 : ∀ u : Under W3, u.x.cell? ⟨ba, 0, none⟩ = some (.string a.lo) := fun u => (u.h.cell lA).trans (bk_cell A.out 0 rfl)
  have uA1 : ∀ u : Under W3, u.x.cell? ⟨ba, 1, none⟩ = some (.string a.hi) := fun u => (u.h.cell lA).trans (bk_cell A.out 1 rfl)
  have uA2 : ∀ u : Under W3, u.x.cell? ⟨ba, 2, none⟩ = some (.bool a.op) := fun u => (u.h.cell lA).trans (bk_cell A.out 2 rfl)
  have lB := bk_lt B.out
  have uB0 : ∀ u : Under W3, u.x.cell? ⟨bb, 0, none⟩ = some (.string b.lo) := fun u => (u.h.cell lB).trans (bk_cell B.out 0 rfl)
  have uB1 : ∀ u : Under W3, u.x.cell? ⟨bb, 1, none⟩ = some (.string b.hi) := fun u => (u.h.cell lB).trans (bk_cell B.out 1 rfl)
  have uB2 : ∀ u : Under W3, u.x.cell? ⟨bb, 2, none⟩ = some (.bool b.op) := fun u => (u.h.cell lB).trans (bk_cell B.out 2 rfl)
  have lM := bk_lt M.out
  have uM0 : ∀ u : Under W3, u.x.cell? ⟨bm, 0, none⟩ = some (.string m.lo) := fun u => (u.h.cell lM).trans (bk_cell M.out 0 rfl)
  have uM1 : ∀ u : Under W3, u.x.cell? ⟨bm, 1, none⟩ = some (.string m.hi) := fun u => (u.h.cell lM).trans (bk_cell M.out 1 rfl)
  have uM2 : ∀ u : Under W3, u.x.cell? ⟨bm, 2, none⟩ = some (.bool m.op) := fun u => (u.h.cell lM).trans (bk_cell M.out 2 rfl)
  have hnu : Nonempty (Under W3) := ⟨⟨W3, Below.refl _ _⟩⟩
  have HSU : Hid (∀ u : Under W3, Calls _ _ _ u.x _) := fun u => calls_under u (HSM.out u.x)
  clear HSM
  refine wp_region_under (by kernel_rfl) (by kernel_rfl) ?_
  repeat (go_big_quiet_step ((go_at_call 10; exact HSU.out _)))
  refine wpQuiet_nil ?_
  rintro _ ⟨u, rfl⟩
  have hbu := u.h
  clear HSU
  clear hnu lA lB lM uA0 uA1 uA2 uB0 uB1 uB2 uM0 uM1 uM2
  have An : Hid (_ = _) := bk_step A.out hbu
  have Bn : Hid (_ = _) := bk_step B.out hbu
  have Mn : Hid (_ = _) := bk_step M.out hbu
  clear A
  have A := An
  clear An
  clear B
  have B := Bn
  clear Bn
  clear M
  have M := Mn
  clear Mn
  have BWn : Hid (Below w.heap.size w _) := BW.out.trans (hbu.mono BW.out.size)
  clear BW
  have BW := BWn
  clear BWn
  generalize u.x = W4 at A B M BW ⊢
  clear hbu
  clear u
  go_upto_region 8 with fail
  have F5 : Hid (((W4.alloc (.cells #[.int .u8 5] 5)).cell? ⟨W4.heap.size, 0, none⟩ : Option Value) = some (.int .u8 5)) := by
    show (W4.alloc (.cells #[.int .u8 5] 5)).cell? ⟨W4.heap.size, 0, none⟩ = some (.int .u8 5)
    simp [go_sem]
  have L5 : Hid (W4.heap.size < (W4.alloc (.cells #[.int .u8 5] 5)).heap.size) := by
    show W4.heap.size < (W4.alloc (.cells #[.int .u8 5] 5)).heap.size
    simp
  have hal : Below W4.heap.size W4 (W4.alloc (.cells #[.int .u8 5] 5)) := (Below.refl _ _).alloc (Nat.le_refl _) _
  have An : Hid (_ = _) := bk_step A.out hal
  have Bn : Hid (_ = _) := bk_step B.out hal
  have Mn : Hid (_ = _) := bk_step M.out hal
  clear A
  have A := An
  clear An
  clear B
  have B := Bn
  clear Bn
  clear M
  have M := Mn
  clear Mn
  have BWn : Hid (Below w.heap.size w _) := BW.out.trans (hal.mono BW.out.size)
  clear BW
  have BW := BWn
  clear BWn
  clear hal
  have HIC : Hid (InC _ _ _) := C2.out.step BW.out
  go_wp2_with (refine wpList_app5_bytes rfl (.tmp 46) (.tmp 47) rfl W4.heap.size x' cap' zs' rfl rfl F5.out L5.out HIC.out HLZ.out ?_; intro ga ca wa nz hnz hIa hBa; have HNZ : Hid (nz = _) := hnz; have HIA : Hid (InC _ _ _) := hIa; have HBA : Hid (Below _ _ _) := hBa; clear hnz hIa hBa)
  rw [HNZ.out]
  clear F5 L5
  generalize W4.alloc (.cells #[.int .u8 5] 5) = W5 at A B M BW HIC HBA
  clear HIC
  have hba := HBA.out
  have An : Hid (_ = _) := bk_step A.out hba
  have Bn : Hid (_ = _) := bk_step B.out hba
  have Mn : Hid (_ = _) := bk_step M.out hba
  clear A
  have A := An
  clear An
  clear B
  have B := Bn
  clear Bn
  clear M
  have M := Mn
  clear Mn
  have BWn : Hid (Below w.heap.size w _) := BW.out.trans (hba.mono BW.out.size)
  clear BW
  have BW := BWn
  clear BWn
  clear hba HBA HNZ
  refine (valueT_any (some ⟨ga, 0, none⟩) ca (5 :: zs') _ HIA.out).mono ?_
  rintro e w6 ⟨⟨v, rfl, hv⟩, b6⟩
  clear HIA
  have An : Hid (_ = _) := bk_step A.out b6
  have Bn : Hid (_ = _) := bk_step B.out b6
  have Mn : Hid (_ = _) := bk_step M.out b6
  clear A
  have A := An
  clear An
  clear B
  have B := Bn
  clear Bn
  clear M
  have M := Mn
  clear Mn
  have BWn : Hid (Below w.heap.size w _) := BW.out.trans (b6.mono BW.out.size)
  clear BW
  have BW := BWn
  clear BWn
  have V : Hid ((_ : Option Obj) = _) := heap_alloc_new w6 (.cells #[.int .i64 v.k, .int .i64 v.n, .string v.t] 28)
  have hal : Below w6.heap.size w6 (w6.alloc (.cells #[.int .i64 v.k, .int .i64 v.n, .string v.t] 28)) := (Below.refl _ _).alloc (Nat.le_refl _) _
  have HV : Hid (okB v = true) := hv
  have hvs := ok_size v hv
  clear b6 hv
  have An : Hid (_ = _) := bk_step A.out hal
  have Bn : Hid (_ = _) := bk_step B.out hal
  have Mn : Hid (_ = _) := bk_step M.out hal
  clear A
  have A := An
  clear An
  clear B
  have B := Bn
  clear Bn
  clear M
  have M := Mn
  clear Mn
  have BWn : Hid (Below w.heap.size w _) := BW.out.trans (hal.mono BW.out.size)
  clear BW
  have BW := BWn
  clear BWn
  clear hal
  go_upto_region 9 with fail
  generalize w6.alloc (.cells #[.int .i64 v.k, .int .i64 v.n, .string v.t] 28) = W6 at A B M V BW ⊢
  generalize w6.heap.size = bv at V ⊢
  have cV0 := bk_cell (v := .int .i64 v.k) V.out 0 rfl
  have cV1 := bk_cell (v := .int .i64 v.n) V.out 1 rfl
  have cV2 := bk_cell (v := .string v.t) V.out 2 rfl
  have HK0 := fun (d : Bool) (W : World) => implKeyOf_any v.k v.n v.t d W (by omega)
  have HK : Hid (∀ (d : Bool) (W : World), Calls Tryz.prog 12 #[.agg #[.int .i64 v.k, .int .i64 v.n, .string v.t], .bool d] W fun e w' => e = .returned (.tuple #[.string (mkB (dirK d (keyV 5 v))), .int .i64 0]) ∧ Below W.heap.size W w') := fun d W => by
    have := HK0 d W
    rw [show keyP ⟨v.k, v.n, v.t⟩ d = (mkB (dirK d (keyV 5 v)), 0) from keyP_ok v d HV.out] at this; exact this
  clear HK0
  have hz1 := dir_size v false HV.out
  have hz2 := dir_size v true HV.out
  have T1 : Hid (∀ op (c : Val), okB c = true → (op = 9 → 0 ≤ c.n ∧ c.n ≤ 5) → letsT op c [v] = true → hasP (tintI op c false) (mkB (dirK false (keyV 5 v))) = true ∧ hasP (tintI op c true) (mkB (dirK true (keyV 5 v))) = true) := fun op c hc h9 hl => by
    rw [has_short hz1, has_short hz2]
    exact ⟨term_has op v c false HV.out hc h9 hl, term_has op v c true HV.out hc h9 hl⟩
  have K1 := HK.out false
  have K2 := HK.out true
  have MT : Hid (hasP m (mkB (dirK false (keyV 5 v))) = (hasP a (mkB (dirK false (keyV 5 v))) && hasP b (mkB (dirK false (keyV 5 v))))) := by
    show hasP m (mkB (dirK false (keyV 5 v))) = _
    rw [has_short hz1, has_short hz1, has_short hz1, HMM.out]; exact has_meet a b _
  clear HMM
  generalize mkB (dirK false (keyV 5 v)) = kf at K1 MT T1 hz1
  generalize mkB (dirK true (keyV 5 v)) = kt at K2 T1 hz2
  have HK1 : Hid (∀ W : World, Calls _ _ _ W _) := K1
  have HK2 : Hid (∀ W : World, Calls _ _ _ W _) := K2
  clear K1 K2 HK
  go_wp2_with fail
  refine (HK1.out _).mono ?_
  rintro e w7 ⟨rfl, b7⟩
  clear cV0 cV1 cV2
  have An : Hid (_ = _) := bk_step A.out b7
  have Bn : Hid (_ = _) := bk_step B.out b7
  have Mn : Hid (_ = _) := bk_step M.out b7
  have Vn : Hid (_ = _) := bk_step V.out b7
  clear A
  have A := An
  clear An
  clear B
  have B := Bn
  clear Bn
  clear M
  have M := Mn
  clear Mn
  clear V
  have V := Vn
  clear Vn
  have BWn : Hid (Below w.heap.size w _) := BW.out.trans (b7.mono BW.out.size)
  clear BW
  have BW := BWn
  clear BWn
  clear b7 HK1
  go_wp2_with fail
  have HHa : Hid (∀ W : World, Calls _ _ _ W _) := fun W => implHas_any a.lo a.hi a.op kf W (by omega)
  have HHb : Hid (∀ W : World, Calls _ _ _ W _) := fun W => implHas_any b.lo b.hi b.op kf W (by omega)
  have HHm : Hid (∀ W : World, Calls _ _ _ W _) := fun W => implHas_any m.lo m.hi m.op kf W (by omega)
  have HSa : Hid (∀ W : World, Calls _ _ _ W _) := fun W => specHas_any a.lo a.hi a.op kf W (by omega)
  have MT2 : hasP ⟨m.lo, m.hi, m.op⟩ kf = (hasP ⟨a.lo, a.hi, a.op⟩ kf && hasP ⟨b.lo, b.hi, b.op⟩ kf) := MT.out
  rw [MT2] at HHm
  clear MT MT2
  generalize hasP ⟨a.lo, a.hi, a.op⟩ kf = ra at HHa HHm HSa
  generalize hasP ⟨b.lo, b.hi, b.op⟩ kf = rb at HHb HHm
  have lA := bk_lt A.out
  have uA0 : ∀ u : Under w7, u.x.cell? ⟨ba, 0, none⟩ = some (.string a.lo) := fun u => (u.h.cell lA).trans (bk_cell A.out 0 rfl)
  have uA1 : ∀ u : Under w7, u.x.cell? ⟨ba, 1, none⟩ = some (.string a.hi) := fun u => (u.h.cell lA).trans (bk_cell A.out 1 rfl)
  have uA2 : ∀ u : Under w7, u.x.cell? ⟨ba, 2, none⟩ = some (.bool a.op) := fun u => (u.h.cell lA).trans (bk_cell A.out 2 rfl)
  have lB := bk_lt B.out
  have uB0 : ∀ u : Under w7, u.x.cell? ⟨bb, 0, none⟩ = some (.string b.lo) := fun u => (u.h.cell lB).trans (bk_cell B.out 0 rfl)
  have uB1 : ∀ u : Under w7, u.x.cell? ⟨bb, 1, none⟩ = some (.string b.hi) := fun u => (u.h.cell lB).trans (bk_cell B.out 1 rfl)
  have uB2 : ∀ u : Under w7, u.x.cell? ⟨bb, 2, none⟩ = some (.bool b.op) := fun u => (u.h.cell lB).trans (bk_cell B.out 2 rfl)
  have lM := bk_lt M.out
  have uM0 : ∀ u : Under w7, u.x.cell? ⟨bm, 0, none⟩ = some (.string m.lo) := fun u => (u.h.cell lM).trans (bk_cell M.out 0 rfl)
  have uM1 : ∀ u : Under w7, u.x.cell? ⟨bm, 1, none⟩ = some (.string m.hi) := fun u => (u.h.cell lM).trans (bk_cell M.out 1 rfl)
  have uM2 : ∀ u : Under w7, u.x.cell? ⟨bm, 2, none⟩ = some (.bool m.op) := fun u => (u.h.cell lM).trans (bk_cell M.out 2 rfl)
  have hnu : Nonempty (Under w7) := ⟨⟨w7, Below.refl _ _⟩⟩
  have UA : Hid (∀ u : Under w7, Calls _ _ _ u.x _) := fun u => calls_under u (HHa.out u.x)
  have UB : Hid (∀ u : Under w7, Calls _ _ _ u.x _) := fun u => calls_under u (HHb.out u.x)
  have UM : Hid (∀ u : Under w7, Calls _ _ _ u.x _) := fun u => calls_under u (HHm.out u.x)
  have US : Hid (∀ u : Under w7, Calls _ _ _ u.x _) := fun u => calls_under u (HSa.out u.x)
  clear HHa HHb HHm HSa
  refine wp_region_under (by kernel_rfl) (by kernel_rfl) ?_
  have hrr : ra = false ∨ (ra = true ∧ rb = false) ∨ (ra = true ∧ rb = true) := by cases ra <;> cases rb <;> simp
  rcases hrr with rfl | ⟨rfl, rfl⟩ | ⟨rfl, rfl⟩
  all_goals
    repeat (go_big_quiet_step (first | (go_at_call 15; with_reducible exact US.out _) | (go_at_call 14; with_reducible exact UM.out _) | (go_at_call 14; with_reducible exact UA.out _) | (go_at_call 14; with_reducible exact UB.out _)))
    refine wpQuiet_nil ?_
    rintro _ ⟨u, rfl⟩
    have hbu := u.h
    clear UA UB UM US
    clear hnu lA lB lM uA0 uA1 uA2 uB0 uB1 uB2 uM0 uM1 uM2
    have An : Hid (_ = _) := bk_step A.out hbu
    have Bn : Hid (_ = _) := bk_step B.out hbu
    have Mn : Hid (_ = _) := bk_step M.out hbu
    have Vn : Hid (_ = _) := bk_step V.out hbu
    clear A
    have A := An
    clear An
    clear B
    have B := Bn
    clear Bn
    clear M
    have M := Mn
    clear Mn
    clear V
    have V := Vn
    clear Vn
    have BWn : Hid (Below w.heap.size w _) := BW.out.trans (hbu.mono BW.out.size)
    clear BW
    have BW := BWn
    clear BWn
    generalize u.x = W8 at A B M V BW ⊢
    clear hbu
    clear u A B M
    go_wp2_with fail
    refine (termT_any x cap zs _ (C1.out.step BW.out)).mono ?_
    rintro e w9 ⟨⟨t, rfl, ht⟩, b9⟩
    have Vn : Hid (_ = _) := bk_step V.out b9
    clear V
    have V := Vn
    clear Vn
    have BWn : Hid (Below w.heap.size w _) := BW.out.trans (b9.mono BW.out.size)
    clear BW
    have BW := BWn
    clear BWn
    have T : Hid ((_ : Option Obj) = _) := heap_alloc_new w9 (.cells #[.int .i64 t.op, .string t.p, .int .i64 t.c.k, .int .i64 t.c.n, .string t.c.t] 34)
    have hal : Below w9.heap.size w9 (w9.alloc (.cells #[.int .i64 t.op, .string t.p, .int .i64 t.c.k, .int .i64 t.c.n, .string t.c.t] 34)) := (Below.refl _ _).alloc (Nat.le_refl _) _
    have hbt : w.heap.size ≤ w9.heap.size := BW.out.size
    have hnv : ¬ bv = w9.heap.size := by have := bk_lt V.out; omega
    have HTB : Hid (termB t.op ⟨#[97]⟩ t.c = true) := by
      show termB t.op ⟨#[97]⟩ t.c = true
      unfold termB at ht ⊢
      rw [Bool.and_eq_true] at ht
      rw [ht.2]; decide
    have hcs : t.c.t.size ≤ 300 := by
      unfold termB at ht; simp at ht; exact ok_size t.c ht.2.1
    clear b9 ht
    have Vn : Hid (_ = _) := bk_step V.out hal
    clear V
    have V := Vn
    clear Vn
    have BWn : Hid (Below w.heap.size w _) := BW.out.trans (hal.mono BW.out.size)
    clear BW
    have BW := BWn
    clear BWn
    clear hal
    go_upto_region 16 with fail
    generalize w9.alloc (.cells #[.int .i64 t.op, .string t.p, .int .i64 t.c.k, .int .i64 t.c.n, .string t.c.t] 34) = W9 at V T BW ⊢
    generalize w9.heap.size = bt at T hbt hnv ⊢
    have cT1 := bk_cell (v := .string t.p) T.out 1 rfl
    have fT1 : W9.frozen? ⟨bt, 1, none⟩ = false := bk_soft T.out 1
    go_upto_region 17 with fail
    clear cT1 fT1
    have Tn : Hid ((_ : Option Obj) = some (.cells #[.int .i64 t.op, .string ⟨#[97]⟩, .int .i64 t.c.k, .int .i64 t.c.n, .string t.c.t] 34)) := (bk_set (j := 1) (v := .string ⟨#[97]⟩) T.out).trans rfl
    have Vn : Hid ((_ : Option Obj) = _) := bk_off (j := 1) (v := .string ⟨#[97]⟩) V.out hnv
    have BWn : Hid (Below w.heap.size w _) := (BW.out.setCell (p := ⟨bt, 1, none⟩) hbt (.string ⟨#[97]⟩))
    clear T V BW
    have T := Tn
    have V := Vn
    have BW := BWn
    clear Tn Vn BWn
    generalize W9.setCell ⟨bt, 1, none⟩ (.string ⟨#[97]⟩) = Wa at T V BW ⊢
    have cV0 := bk_cell (v := .int .i64 v.k) V.out 0 rfl
    have cV1 := bk_cell (v := .int .i64 v.n) V.out 1 rfl
    have cV2 := bk_cell (v := .string v.t) V.out 2 rfl
    have hal : Below Wa.heap.size Wa (Wa.alloc (.cells #[.string ⟨#[97]⟩, .int .i64 v.k, .int .i64 v.n, .string v.t] 39)) := (Below.refl _ _).alloc (Nat.le_refl _) _
    have RF : Hid (ReadF (Wa.alloc (.cells #[.string ⟨#[97]⟩, .int .i64 v.k, .int .i64 v.n, .string v.t] 39)) Wa.heap.size [⟨⟨#[97]⟩, v⟩]) := by
      refine ⟨by simp, fun i hi => ?_⟩
      obtain rfl : i = 0 := by simp at hi; exact hi
      exact ⟨by simp [go_sem], by simp [go_sem], by simp [go_sem], by simp [go_sem]⟩
    have MD := one_made v HV.out
    have HDC : Hid (∀ W : World, ReadF W Wa.heap.size [⟨⟨#[97]⟩, v⟩] → Calls Tryz.prog 17 #[.slice (some ⟨Wa.heap.size, 0, none⟩) 1 1] W fun e w' => e = .returned (.tuple #[.agg #[.int .i64 (madeP [⟨⟨#[97]⟩, v⟩]).1.k, .int .i64 (madeP [⟨⟨#[97]⟩, v⟩]).1.n, .string (madeP [⟨⟨#[97]⟩, v⟩]).1.t], .int .i64 (madeP [⟨⟨#[97]⟩, v⟩]).2]) ∧ Below W.heap.size W w') := fun W hW => implDoc_any Wa.heap.size 1 [⟨⟨#[97]⟩, v⟩] W hW (by simp) (fun f hf => by simp at hf; subst hf; exact ⟨(show (⟨#[97]⟩ : ByteArray).size ≤ 1048576 by decide), by show v.t.size ≤ _; omega⟩)
    generalize madeP [⟨⟨#[97]⟩, v⟩] = md at MD HDC
    obtain ⟨doc, dc⟩ := md
    have HMD : Hid ((dc = 10 ∨ dc = 9) ∨ (dc = 0 ∧ docB doc = true ∧ (v.k ≠ 4 → getP (pieces ⟨#[97]⟩) doc = [v]))) := MD
    clear MD
    go_wp2_with fail
    refine (HDC.out _ RF.out).mono ?_
    rintro e wb ⟨rfl, bb9⟩
    have bA := hal.trans (bb9.mono hal.size)
    clear HDC RF
    clear cV0 cV1 cV2
    have Vn : Hid (_ = _) := bk_step V.out bA
    have Tn : Hid (_ = _) := bk_step T.out bA
    clear V
    have V := Vn
    clear Vn
    clear T
    have T := Tn
    clear Tn
    have BWn : Hid (Below w.heap.size w _) := BW.out.trans (bA.mono BW.out.size)
    clear BW
    have BW := BWn
    clear BWn
    clear bA hal bb9
    have D : Hid ((_ : Option Obj) = _) := heap_alloc_new wb (.cells #[.int .i64 doc.k, .int .i64 doc.n, .string doc.t] 28)
    have hal : Below wb.heap.size wb (wb.alloc (.cells #[.int .i64 doc.k, .int .i64 doc.n, .string doc.t] 28)) := (Below.refl _ _).alloc (Nat.le_refl _) _
    have Vn : Hid (_ = _) := bk_step V.out hal
    have Tn : Hid (_ = _) := bk_step T.out hal
    clear V
    have V := Vn
    clear Vn
    clear T
    have T := Tn
    clear Tn
    have BWn : Hid (Below w.heap.size w _) := BW.out.trans (hal.mono BW.out.size)
    clear BW
    have BW := BWn
    clear BWn
    clear hal
    go_upto_region 18 with fail
    generalize wb.alloc (.cells #[.int .i64 doc.k, .int .i64 doc.n, .string doc.t] 28) = Wb at T V D BW ⊢
    generalize wb.heap.size = bd at D ⊢
    by_cases hdc : dc = 0
    rotate_left
    · have h109 : dc = 10 ∨ dc = 9 := by rcases HMD.out with h | h; exact h; exact absurd h.1 hdc
      have B9 := BW.out
      clear HMD hdc
      rcases h109 with rfl | rfl
      all_goals
        go_wp2_with fail
        go_ret
        exact ⟨rfl, B9⟩
    subst hdc
    have HDO : Hid (docB doc = true ∧ (v.k ≠ 4 → getP (pieces ⟨#[97]⟩) doc = [v])) := by
      rcases HMD.out with h | h
      · omega
      · exact h.2
    clear HMD
    have hds : doc.t.size ≤ 300 := by
      have := HDO.out.1; unfold docB at this; simp at this; exact ok_size doc this.2
    have cV0 := bk_cell (v := .int .i64 v.k) V.out 0 rfl
    by_cases hk4 : v.k = 4
    · have e4 : (v.k == 4) = true := by simp [hk4]
      have B9 := BW.out
      go_wp2_with fail
      go_ret
      exact ⟨rfl, B9⟩
    have e4 : (v.k == 4) = false := beq_eq_false_iff_ne.mpr hk4
    go_upto_region 20 with fail
    clear cV0 e4
    have HTP := term_parts t.op ⟨#[97]⟩ t.c HTB.out
    have HLT : Hid (termL t.op ⟨#[97]⟩ t.c doc = true → hasP (tintI t.op t.c false) kf = true ∧ hasP (tintI t.op t.c true) kt = true) := fun hl => by
      unfold termL at hl
      rw [HDO.out.2 hk4] at hl
      exact T1.out t.op t.c HTP.1 HTP.2.2 hl
    have HMT : Hid (∀ W : World, Calls Tryz.prog 18 #[.agg #[.int .i64 t.op, .string ⟨#[97]⟩, .int .i64 t.c.k, .int .i64 t.c.n, .string t.c.t], .agg #[.int .i64 doc.k, .int .i64 doc.n, .string doc.t]] W fun e w' => e = .returned (.tuple #[.bool (termL t.op ⟨#[97]⟩ t.c doc), .int .i64 0]) ∧ Below W.heap.size W w') := fun W => by
      have := termMatches_any t.op ⟨#[97]⟩ t.c doc W (by decide) (by omega) (by omega)
      rw [show matchP t.op ⟨#[97]⟩ t.c doc = (termL t.op ⟨#[97]⟩ t.c doc, 0) from by unfold matchP; rw [if_pos ⟨HTB.out, HDO.out.1⟩]] at this; exact this
    have HTI : Hid (∀ (d : Bool) (W : World), Calls Tryz.prog 19 #[.agg #[.int .i64 t.op, .string ⟨#[97]⟩, .int .i64 t.c.k, .int .i64 t.c.n, .string t.c.t], .bool d] W fun e w' => e = .returned (.tuple #[.agg #[.string (tintI t.op t.c d).lo, .string (tintI t.op t.c d).hi, .bool (tintI t.op t.c d).op], .int .i64 0]) ∧ Below W.heap.size W w') := fun d W => by
      have := implTint_any t.op ⟨#[97]⟩ t.c.k t.c.n t.c.t d W (by decide) (by omega)
      rw [show tintP t.op ⟨#[97]⟩ ⟨t.c.k, t.c.n, t.c.t⟩ d = (tintI t.op t.c d, 0) from tintP_ok t.op ⟨#[97]⟩ t.c d HTB.out] at this; exact this
    have HST : Hid (∀ (W : World), Calls Tryz.prog 20 #[.agg #[.int .i64 t.op, .string ⟨#[97]⟩, .int .i64 t.c.k, .int .i64 t.c.n, .string t.c.t], .bool true] W fun e w' => e = .returned (.tuple #[.agg #[.string (tintI t.op t.c true).lo, .string (tintI t.op t.c true).hi, .bool (tintI t.op t.c true).op], .int .i64 0]) ∧ Below W.heap.size W w') := fun W => by
      have := specTint_any t.op ⟨#[97]⟩ t.c.k t.c.n t.c.t true W (by decide) (by omega)
      rw [show tintP t.op ⟨#[97]⟩ ⟨t.c.k, t.c.n, t.c.t⟩ true = (tintI t.op t.c true, 0) from tintP_ok t.op ⟨#[97]⟩ t.c true HTB.out] at this; exact this
    have I1 := HTI.out false
    have I2 := HTI.out true
    clear HTI HTP HTB T1 HDO hk4
    generalize termL t.op ⟨#[97]⟩ t.c doc = lt at HLT HMT
    generalize tintI t.op t.c false = up at HLT I1
    generalize tintI t.op t.c true = dn at HLT I2 HST
    have HI1 : Hid (∀ W : World, Calls _ _ _ W _) := I1
    have HI2 : Hid (∀ W : World, Calls _ _ _ W _) := I2
    clear I1 I2
    have cT0 := bk_cell (v := .int .i64 t.op) T.out 0 rfl
    have cT1 := bk_cell (v := .string ⟨#[97]⟩) T.out 1 rfl
    have cT2 := bk_cell (v := .int .i64 t.c.k) T.out 2 rfl
    have cT3 := bk_cell (v := .int .i64 t.c.n) T.out 3 rfl
    have cT4 := bk_cell (v := .string t.c.t) T.out 4 rfl
    have cD0 := bk_cell (v := .int .i64 doc.k) D.out 0 rfl
    have cD1 := bk_cell (v := .int .i64 doc.n) D.out 1 rfl
    have cD2 := bk_cell (v := .string doc.t) D.out 2 rfl
    go_wp2_with fail
    refine (HMT.out _).mono ?_
    rintro e wc ⟨rfl, bc⟩
    clear cT0 cT1 cT2 cT3 cT4 cD0 cD1 cD2
    have Vn : Hid (_ = _) := bk_step V.out bc
    have Tn : Hid (_ = _) := bk_step T.out bc
    have Dn : Hid (_ = _) := bk_step D.out bc
    clear V
    have V := Vn
    clear Vn
    clear T
    have T := Tn
    clear Tn
    clear D
    have D := Dn
    clear Dn
    have BWn : Hid (Below w.heap.size w _) := BW.out.trans (bc.mono BW.out.size)
    clear BW
    have BW := BWn
    clear BWn
    clear bc HMT D
    have cT0 := bk_cell (v := .int .i64 t.op) T.out 0 rfl
    have cT1 := bk_cell (v := .string ⟨#[97]⟩) T.out 1 rfl
    have cT2 := bk_cell (v := .int .i64 t.c.k) T.out 2 rfl
    have cT3 := bk_cell (v := .int .i64 t.c.n) T.out 3 rfl
    have cT4 := bk_cell (v := .string t.c.t) T.out 4 rfl
    go_wp2_with fail
    refine (HI1.out _).mono ?_
    rintro e wd ⟨rfl, bd9⟩
    clear cT0 cT1 cT2 cT3 cT4
    have Vn : Hid (_ = _) := bk_step V.out bd9
    have Tn : Hid (_ = _) := bk_step T.out bd9
    clear V
    have V := Vn
    clear Vn
    clear T
    have T := Tn
    clear Tn
    have BWn : Hid (Below w.heap.size w _) := BW.out.trans (bd9.mono BW.out.size)
    clear BW
    have BW := BWn
    clear BWn
    clear bd9 HI1
    have U : Hid ((_ : Option Obj) = _) := heap_alloc_new wd (.cells #[.string up.lo, .string up.hi, .bool up.op] 24)
    have hal : Below wd.heap.size wd (wd.alloc (.cells #[.string up.lo, .string up.hi, .bool up.op] 24)) := (Below.refl _ _).alloc (Nat.le_refl _) _
    have Vn : Hid (_ = _) := bk_step V.out hal
    have Tn : Hid (_ = _) := bk_step T.out hal
    clear V
    have V := Vn
    clear Vn
    clear T
    have T := Tn
    clear Tn
    have BWn : Hid (Below w.heap.size w _) := BW.out.trans (hal.mono BW.out.size)
    clear BW
    have BW := BWn
    clear BWn
    clear hal
    go_upto_region 22 with fail
    generalize wd.alloc (.cells #[.string up.lo, .string up.hi, .bool up.op] 24) = wdx at V T U BW ⊢
    generalize wd.heap.size = bU at U ⊢
    have cT0 := bk_cell (v := .int .i64 t.op) T.out 0 rfl
    have cT1 := bk_cell (v := .string ⟨#[97]⟩) T.out 1 rfl
    have cT2 := bk_cell (v := .int .i64 t.c.k) T.out 2 rfl
    have cT3 := bk_cell (v := .int .i64 t.c.n) T.out 3 rfl
    have cT4 := bk_cell (v := .string t.c.t) T.out 4 rfl
    go_wp2_with fail
    refine (HI2.out _).mono ?_
    rintro e we ⟨rfl, be⟩
    clear cT0 cT1 cT2 cT3 cT4
    have Vn : Hid (_ = _) := bk_step V.out be
    have Tn : Hid (_ = _) := bk_step T.out be
    have Un : Hid (_ = _) := bk_step U.out be
    clear V
    have V := Vn
    clear Vn
    clear T
    have T := Tn
    clear Tn
    clear U
    have U := Un
    clear Un
    have BWn : Hid (Below w.heap.size w _) := BW.out.trans (be.mono BW.out.size)
    clear BW
    have BW := BWn
    clear BWn
    clear be HI2
    have N : Hid ((_ : Option Obj) = _) := heap_alloc_new we (.cells #[.string dn.lo, .string dn.hi, .bool dn.op] 24)
    have hal : Below we.heap.size we (we.alloc (.cells #[.string dn.lo, .string dn.hi, .bool dn.op] 24)) := (Below.refl _ _).alloc (Nat.le_refl _) _
    have Vn : Hid (_ = _) := bk_step V.out hal
    have Tn : Hid (_ = _) := bk_step T.out hal
    have Un : Hid (_ = _) := bk_step U.out hal
    clear V
    have V := Vn
    clear Vn
    clear T
    have T := Tn
    clear Tn
    clear U
    have U := Un
    clear Un
    have BWn : Hid (Below w.heap.size w _) := BW.out.trans (hal.mono BW.out.size)
    clear BW
    have BW := BWn
    clear BWn
    clear hal
    go_upto_region 23 with fail
    generalize we.alloc (.cells #[.string dn.lo, .string dn.hi, .bool dn.op] 24) = wex at V T U N BW ⊢
    generalize we.heap.size = bN at N ⊢
    have cV0 := bk_cell (v := .int .i64 v.k) V.out 0 rfl
    have cV1 := bk_cell (v := .int .i64 v.n) V.out 1 rfl
    have cV2 := bk_cell (v := .string v.t) V.out 2 rfl
    go_wp2_with fail
    refine (HK2.out _).mono ?_
    rintro e wf ⟨rfl, bf⟩
    clear cV0 cV1 cV2
    have Vn : Hid (_ = _) := bk_step V.out bf
    have Tn : Hid (_ = _) := bk_step T.out bf
    have Un : Hid (_ = _) := bk_step U.out bf
    have Nn : Hid (_ = _) := bk_step N.out bf
    clear V
    have V := Vn
    clear Vn
    clear T
    have T := Tn
    clear Tn
    clear U
    have U := Un
    clear Un
    clear N
    have N := Nn
    clear Nn
    have BWn : Hid (Below w.heap.size w _) := BW.out.trans (bf.mono BW.out.size)
    clear BW
    have BW := BWn
    clear BWn
    clear bf HK2
    clear V
    have cT0 := bk_cell (v := .int .i64 t.op) T.out 0 rfl
    have cT1 := bk_cell (v := .string ⟨#[97]⟩) T.out 1 rfl
    have cT2 := bk_cell (v := .int .i64 t.c.k) T.out 2 rfl
    have cT3 := bk_cell (v := .int .i64 t.c.n) T.out 3 rfl
    have cT4 := bk_cell (v := .string t.c.t) T.out 4 rfl
    go_wp2_with fail
    refine (HST.out _).mono ?_
    rintro e wg ⟨rfl, bg⟩
    clear cT0 cT1 cT2 cT3 cT4
    have Tn : Hid (_ = _) := bk_step T.out bg
    have Un : Hid (_ = _) := bk_step U.out bg
    have Nn : Hid (_ = _) := bk_step N.out bg
    clear T
    have T := Tn
    clear Tn
    clear U
    have U := Un
    clear Un
    clear N
    have N := Nn
    clear Nn
    have BWn : Hid (Below w.heap.size w _) := BW.out.trans (bg.mono BW.out.size)
    clear BW
    have BW := BWn
    clear BWn
    clear bg HST
    have G : Hid ((_ : Option Obj) = _) := heap_alloc_new wg (.cells #[.string dn.lo, .string dn.hi, .bool dn.op] 24)
    have hal : Below wg.heap.size wg (wg.alloc (.cells #[.string dn.lo, .string dn.hi, .bool dn.op] 24)) := (Below.refl _ _).alloc (Nat.le_refl _) _
    have Tn : Hid (_ = _) := bk_step T.out hal
    have Un : Hid (_ = _) := bk_step U.out hal
    have Nn : Hid (_ = _) := bk_step N.out hal
    clear T
    have T := Tn
    clear Tn
    clear U
    have U := Un
    clear Un
    clear N
    have N := Nn
    clear Nn
    have BWn : Hid (Below w.heap.size w _) := BW.out.trans (hal.mono BW.out.size)
    clear BW
    have BW := BWn
    clear BWn
    clear hal
    go_upto_region 25 with fail
    generalize wg.alloc (.cells #[.string dn.lo, .string dn.hi, .bool dn.op] 24) = wgx at T U N G BW ⊢
    generalize wg.heap.size = bG at G ⊢
    clear T
    have cU0 := bk_cell (v := .string up.lo) U.out 0 rfl
    have cU1 := bk_cell (v := .string up.hi) U.out 1 rfl
    have cU2 := bk_cell (v := .bool up.op) U.out 2 rfl
    have cN0 := bk_cell (v := .string dn.lo) N.out 0 rfl
    have cN1 := bk_cell (v := .string dn.hi) N.out 1 rfl
    have cN2 := bk_cell (v := .bool dn.op) N.out 2 rfl
    have cG0 := bk_cell (v := .string dn.lo) G.out 0 rfl
    have cG1 := bk_cell (v := .string dn.hi) G.out 1 rfl
    have cG2 := bk_cell (v := .bool dn.op) G.out 2 rfl
    cases lt
    · have B9 := BW.out
      go_wp2_with fail
      go_ret
      exact ⟨rfl, B9⟩
    · have HH1 : Hid (∀ W : World, Calls _ _ _ W _) := fun W => implHas_any up.lo up.hi up.op kf W (by omega)
      have HH2 : Hid (∀ W : World, Calls _ _ _ W _) := fun W => implHas_any dn.lo dn.hi dn.op kt W (by omega)
      have l1 : hasP ⟨up.lo, up.hi, up.op⟩ kf = true := (HLT.out rfl).1
      have l2 : hasP ⟨dn.lo, dn.hi, dn.op⟩ kt = true := (HLT.out rfl).2
      rw [l1] at HH1
      rw [l2] at HH2
      clear l1 l2 HLT
      go_wp2_with fail
      refine (HH1.out _).mono ?_
      rintro e wh ⟨rfl, bh⟩
      clear cU0 cU1 cU2 cN0 cN1 cN2 cG0 cG1 cG2
      have cN0 := bk_cell (v := .string dn.lo) (bk_step N.out bh) 0 rfl
      have cN1 := bk_cell (v := .string dn.hi) (bk_step N.out bh) 1 rfl
      have cN2 := bk_cell (v := .bool dn.op) (bk_step N.out bh) 2 rfl
      have Bh := BW.out.trans (bh.mono BW.out.size)
      go_wp2_with fail
      refine (HH2.out _).mono ?_
      rintro e wi ⟨rfl, bi⟩
      have B9 := Bh.trans (bi.mono Bh.size)
      clear cN0 cN1 cN2
      go_wp2_with fail
      go_ret
      exact ⟨rfl, B9⟩

end Go.Proofs.YtkeghknceccdmaaGreatDoor
