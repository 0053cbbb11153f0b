/- Whether lists of committed ones are right: both answers. -/
import Derived.Test.YthjimbnpkkpbkaaGreatDoorDnsRQ
import Derived.Test.YthjimbnpkkpbkaaGreatDoorFiltMQ
import Derived.Test.YthjimbnpkkpbkaaGreatDoorTrB
import Derived.OwnWalkIn
import Derived.Test.YthjimbnpkkpbkaaGreatDoorTwcIQ
import Derived.WalkMore
import Derived.RangeFuncBox
import Derived.RangeFuncNested
import Derived.RangeFuncFrom
import Derived.Maps.AppendAt
import Derived.Deep.RegionHeld3
import Derived.Lib.Hide
namespace Go.Proofs.YthjimbnpkkpbkaaGreatDoor.Ce
open Go.RowKit Go.ChangeShapes Go.WideShapes Go.ChangeAt Go.Joins Tr Co Rea
set_option linter.unusedVariables false

def dnB (x : Dn) : Bool := doneB x.sn x.at_ x.rs x.cs
/-- They rise by their times, and none is a pivot. -/
def riseB (z : Int) : List Dn → Bool
  | [] => true
  | x :: l => decide (z < x.at_) && (dnB x && (!(x.di && x.do_) && riseB x.at_ l))
def lastD (l : List Dn) (k : Nat) : Int := if k = 0 then 0 else (l[k - 1]?.map (·.at_)).getD 0
def donesB (l : List Dn) : Bool := riseB 0 l && decide (l.length ≤ 30)
theorem riseB_step (z : Int) (l : List Dn) (k : Nat) (h : k < l.length) : riseB z (l.drop k) = (decide (z < l[k].at_) && (dnB l[k] && (!(l[k].di && l[k].do_) && riseB l[k].at_ (l.drop (k + 1))))) := by
  rw [List.drop_eq_getElem_cons h]; rfl
theorem riseB_end (z : Int) (l : List Dn) (k : Nat) (h : l.length ≤ k) : riseB z (l.drop k) = true := by
  rw [List.drop_of_length_le h]; rfl
theorem lastD_succ (l : List Dn) (k : Nat) (h : k < l.length) : lastD l (k + 1) = l[k].at_ := by
  simp [lastD, List.getElem?_eq_getElem h]
theorem dnB_pos (x : Dn) (h : dnB x = true) : 0 < x.at_ := by
  unfold dnB doneB at h
  simp only [Bool.and_eq_true, decide_eq_true_eq] at h
  omega

/-- They rise by their times, whoever is a pivot. -/
def rizB (z : Int) : List Dn → Bool
  | [] => true
  | x :: l => decide (z < x.at_) && (dnB x && rizB x.at_ l)
def pvB (x : Dn) : Bool := x.di && x.do_
theorem rizB_step (z : Int) (l : List Dn) (k : Nat) (h : k < l.length) : rizB z (l.drop k) = (decide (z < l[k].at_) && (dnB l[k] && rizB l[k].at_ (l.drop (k + 1)))) := by
  rw [List.drop_eq_getElem_cons h]; rfl
theorem rizB_end (z : Int) (l : List Dn) (k : Nat) (h : l.length ≤ k) : rizB z (l.drop k) = true := by
  rw [List.drop_of_length_le h]; rfl
theorem riseB_parts (z : Int) (l : List Dn) : riseB z l = (rizB z l && l.all fun x => !(pvB x)) := by
  induction l generalizing z with
  | nil => rfl
  | cons x l ih =>
    simp only [riseB, rizB, List.all_cons, ih, pvB]
    cases decide (z < x.at_) <;> cases dnB x <;> cases x.di <;> cases x.do_ <;> cases rizB x.at_ l <;> rfl

set_option maxRecDepth 8000 in
set_option maxHeartbeats 4000000 in
theorem donesRise_any (g c b1 : Nat) (l : List Dn) (w : World) (h1 : MadeDn w b1 g l) (hlen : l.length ≤ 1048576) (hs : ∀ v ∈ l, szDn v) :
    Calls Tryz.prog 28 #[.slice (some ⟨g, 0, none⟩) l.length c] w fun e w' => e = .returned (.bool (rizB 0 l)) ∧ Below w.heap.size w w' := by
  have H1 : Hid (MadeDn _ _ _ _) := h1
  have HS : Hid (∀ v ∈ l, szDn v) := hs
  clear h1 hs
  obtain ⟨R, hR⟩ : ∃ R, R = rizB 0 l := ⟨_, rfl⟩
  rw [← hR]
  have HR : Hid (R = rizB 0 (l.drop 0)) := hR
  clear hR
  go_enter Tryz.func28, Tryz.ntmps28
  go_wp2_with fail
  go_loopw [3, 8] (fun z i wr => ∃ (k : Nat) (y : Int), k ≤ l.length ∧ i = .int .i64 k ∧ z = .int .i64 y ∧ R = rizB y (l.drop k) ∧ Below w.heap.size w wr) (fun _ i _ => l.length - (intOf i).toNat)
  case atStart => exact ⟨0, 0, Nat.zero_le _, rfl, rfl, HR.out, Below.refl _ _⟩
  case round =>
    obtain ⟨k, z, hk, rfl, rfl, hrk, hbel⟩ := hrel
    clear HR
    by_cases hlt : k < l.length
    · have hlt2 : (k : Int) < (l.length : Int) := by omega
      have R1 := H1.out.next hbel
      obtain ⟨gr, gc, ⟨x0, x1, x2, x3, x4, x5⟩, u0, u1, u2⟩ := R1.cells k hlt
      have hg1 := R1.lt
      have hsk := HS.out l[k] (List.getElem_mem _)
      rw [rizB_step z l k hlt] at hrk
      obtain ⟨x, hx⟩ : ∃ x, x = l[k] := ⟨_, rfl⟩
      rw [← hx] at x0 x1 x2 x3 x4 x5 u0 u1 hsk hrk
      have X0 := BxDn.start wr (.int .i64 x.sn) (.int .i64 x.at_) (.slice (some ⟨gr, 0, none⟩) x.rs.length x.rs.length) (.slice (some ⟨gc, 0, none⟩) x.cs.length x.cs.length) (.bool x.di) (.bool x.do_) 44
      have HC : Hid (Calls _ _ _ _ _) := doneOK_any x.sn x.at_ gr gc x.rs.length x.cs.length b1 x.di x.do_ x.rs x.cs (wr.alloc (.cells #[.int .i64 x.sn, .int .i64 x.at_, .slice (some ⟨gr, 0, none⟩) x.rs.length x.rs.length, .slice (some ⟨gc, 0, none⟩) x.cs.length x.cs.length, .bool x.di, .bool x.do_] 44)) (u0.next X0.bel) (u1.next X0.bel) hsk.r0 hsk.s0 hsk.r1 hsk.s1
      have hdb : doneB x.sn x.at_ x.rs x.cs = dnB x := rfl
      rw [hdb] at HC
      have HRK : Hid (R = _) := hrk
      clear hdb hx R1 u0 u1 u2 hsk hrk
      by_cases t1 : z < x.at_
      case neg =>
        have t2 : x.at_ ≤ z := by omega
        have HF : Hid (R = false) := by show R = false; rw [HRK.out, decide_eq_false t1, Bool.false_and]
        have hbw := hbel.trans (X0.bel.mono hbel.size)
        clear HC X0 HRK
        go_wp2_with fail
        go_ret
        exact ⟨by rw [HF.out]; rfl, hbw⟩
      have t2 : ¬ x.at_ ≤ z := by omega
      cases hD : dnB x
      · rw [hD] at HC
        have HF : Hid (R = false) := by show R = false; rw [HRK.out, hD, Bool.false_and, Bool.and_false]
        clear hD HRK
        go_wp2_with fail
        refine HC.out.mono ?_
        rintro e w1 ⟨rfl, hb⟩
        have hbw := hbel.trans ((X0.step hb).bel.mono hbel.size)
        clear hb X0 HC
        go_wp2_with fail
        go_ret
        exact ⟨by rw [HF.out]; rfl, hbw⟩
      rw [hD] at HC
      have HF : Hid (R = rizB x.at_ (l.drop (k + 1))) := by show R = _; rw [HRK.out, hD, decide_eq_true t1]; rfl
      clear hD HRK
      go_wp2_with fail
      refine HC.out.mono ?_
      rintro e w1 ⟨rfl, hb⟩
      have X1 := X0.step hb
      have z1 := X1.c1
      have hbw := hbel.trans (X1.bel.mono hbel.size)
      clear hb X0 HC x0 x1 x2 x3 x4 x5
      go_wp2_with fail
      go_roundw
      case rel => exact ⟨k + 1, x.at_, by omega, by go_num, rfl, HF.out, hbw⟩
      case measure => simp [intOf]; omega
    · have hlt2 : ¬ (k : Int) < (l.length : Int) := by omega
      rw [rizB_end z l k (by omega)] at hrk
      subst hrk
      go_wp2_with fail
      go_ret
      exact ⟨rfl, hbel⟩

set_option maxRecDepth 4000 in
set_option maxHeartbeats 1000000 in
theorem idxPivot_any (g qc bs : Nat) (l : List Dn) (w : World) (hr : MadeDn w bs g l) (hl : l.length ≤ 1048576) :
    Calls Tryz.prog 46 #[.slice (some ⟨g, 0, none⟩) l.length qc, .func (.func 30) #[] #[]] w fun e w' => (∃ i : Int, e = .returned (.int .i64 i) ∧ decide (0 ≤ i) = !(l.all fun x => !(pvB x))) ∧ Below w.heap.size w w' := by
  have HR : Hid (MadeDn _ _ _ _) := hr
  clear hr
  go_enter Tryz.func46, Tryz.ntmps46
  go_wp2_with fail
  go_loopw [8] (fun i wr => ∃ k : Nat, k ≤ l.length ∧ i = .int .i64 k ∧ (∀ u ∈ l.take k, pvB u = false) ∧ Below w.heap.size w wr) (fun i _ => l.length - (intOf i).toNat)
  case atStart => exact ⟨0, Nat.zero_le _, rfl, fun u hu => by simp at hu, Below.refl _ _⟩
  case round =>
    obtain ⟨k, hk, rfl, hall, hbel⟩ := hrel
    have HA : Hid _ := hall
    clear hall
    by_cases hlt : k < l.length
    · have R := HR.out.next hbel
      have hg1 := R.lt
      obtain ⟨gr, gc, ⟨x0, x1, x2, x3, x4, x5⟩, _, _, _⟩ := R.cells k hlt
      have hlt2 : (k : Int) < (l.length : Int) := by omega
      have HK0 : ∀ W : World, Calls Tryz.prog 30 #[.agg #[.int .i64 l[k].sn, .int .i64 l[k].at_, .slice (some ⟨gr, 0, none⟩) l[k].rs.length l[k].rs.length, .slice (some ⟨gc, 0, none⟩) l[k].cs.length l[k].cs.length, .bool l[k].di, .bool l[k].do_]] W fun e w' => e = .returned (.bool (pvB l[k])) ∧ Below W.heap.size W w' := fun W => isPivot_any l[k].sn l[k].at_ (.slice (some ⟨gr, 0, none⟩) l[k].rs.length l[k].rs.length) (.slice (some ⟨gc, 0, none⟩) l[k].cs.length l[k].cs.length) l[k].di l[k].do_ W
      cases hP : pvB l[k]
      · rw [hP] at HK0
        have HK : Hid _ := HK0
        have HPK : Hid _ := hP
        clear R hP HK0
        go_wp2_with fail
        refine (HK.out _).mono ?_
        rintro e w1 ⟨rfl, hb⟩
        have hb1 := hbel.trans (hb.mono hbel.size)
        clear hb
        go_wp2_with fail
        go_roundw
        case rel =>
          refine ⟨k + 1, by omega, by go_num, ?_, hb1⟩
          intro u hu
          rw [List.take_succ_eq_append_getElem hlt] at hu
          rcases List.mem_append.mp hu with h | h
          · exact HA.out u h
          · simp at h; subst h; exact HPK.out
        case measure => simp [intOf]; omega
      · rw [hP] at HK0
        have HK : Hid _ := HK0
        have hal : (l.all fun x => !(pvB x)) = false := by
          rw [Bool.eq_false_iff]; intro hh
          have := List.all_eq_true.mp hh l[k] (List.getElem_mem _)
          rw [hP] at this; cases this
        have HL : Hid _ := hal
        clear R hP HK0 hal
        go_wp2_with fail
        refine (HK.out _).mono ?_
        rintro e w1 ⟨rfl, hb⟩
        have hb1 := hbel.trans (hb.mono hbel.size)
        clear hb
        go_wp2_with fail
        go_ret
        exact ⟨⟨k, rfl, by rw [HL.out]; exact decide_eq_true (by omega)⟩, hb1⟩
    · have hlt2 : ¬ (k : Int) < (l.length : Int) := by omega
      have hal : (l.all fun x => !(pvB x)) = true := List.all_eq_true.mpr (fun u hu => by rw [HA.out u (by rw [List.take_of_length_le (by omega)]; exact hu)]; rfl)
      have HL : Hid _ := hal
      clear hal
      go_wp2_with fail
      go_ret
      exact ⟨⟨-1, rfl, by rw [HL.out]; rfl⟩, hbel⟩

set_option maxRecDepth 4000 in
set_option maxHeartbeats 1000000 in
theorem anyPivot_any (g qc bs : Nat) (l : List Dn) (w : World) (hr : MadeDn w bs g l) (hl : l.length ≤ 1048576) :
    Calls Tryz.prog 29 #[.slice (some ⟨g, 0, none⟩) l.length qc, .func (.func 30) #[] #[]] w fun e w' => e = .returned (.bool (!(l.all fun x => !(pvB x)))) ∧ Below w.heap.size w w' := by
  have HI : Hid (Calls _ _ _ _ _) := idxPivot_any g qc bs l w hr hl
  clear hr
  go_enter Tryz.func29, Tryz.ntmps29
  go_wp2_with fail
  refine HI.out.mono ?_
  rintro e w1 ⟨⟨i, rfl, hi⟩, hb⟩
  have HJ : Hid _ := hi
  clear hi HI
  go_wp2_with fail
  go_ret
  exact ⟨ret_bool HJ.out, hb⟩

set_option maxRecDepth 8000 in
set_option maxHeartbeats 4000000 in
theorem doneListOK_any (g c b1 : Nat) (l : List Dn) (w : World) (h1 : MadeDn w b1 g l) (hlen : l.length ≤ 1048576) (hs : ∀ v ∈ l, szDn v) :
    Calls Tryz.prog 17 #[.slice (some ⟨g, 0, none⟩) l.length c] w fun e w' => e = .returned (.bool (donesB l)) ∧ Below w.heap.size w w' := by
  have H1 : Hid (MadeDn _ _ _ _) := h1
  have HC : Hid (Calls _ _ _ _ _) := donesRise_any g c b1 l w h1 hlen hs
  clear h1 hs
  obtain ⟨R, hR⟩ : ∃ R, R = donesB l := ⟨_, rfl⟩
  rw [← hR]
  obtain ⟨T, hT⟩ : ∃ T, T = rizB 0 l := ⟨_, rfl⟩
  obtain ⟨V, hV⟩ : ∃ V, V = l.all fun x => !(pvB x) := ⟨_, rfl⟩
  have HR : Hid (R = ((T && V) && decide (l.length ≤ 30))) := by show R = _; rw [hR, hT, hV, ← riseB_parts]; rfl
  have HV : Hid (V = l.all fun x => !(pvB x)) := hV
  rw [← hT] at HC
  clear hR hT hV
  by_cases hbig : l.length ≤ 30
  case neg =>
    have hb2 : ¬ (l.length : Int) ≤ 30 := by omega
    have HF : Hid (R = false) := by show R = false; rw [HR.out, decide_eq_false hbig, Bool.and_false]
    clear HC HR
    go_enter Tryz.func17, Tryz.ntmps17
    go_wp2_with fail
    go_ret
    exact ⟨by rw [HF.out]; rfl, Below.refl _ _⟩
  have hb2 : (l.length : Int) ≤ 30 := by omega
  cases T
  · have HF : Hid (R = false) := by show R = false; rw [HR.out]; rfl
    clear HR
    go_enter Tryz.func17, Tryz.ntmps17
    go_wp2_with fail
    refine HC.out.mono ?_
    rintro e w1 ⟨rfl, hb⟩
    clear HC
    go_wp2_with fail
    go_ret
    exact ⟨by rw [HF.out]; rfl, hb⟩
  have HF : Hid (R = V) := by show R = V; rw [HR.out, decide_eq_true hbig, Bool.and_true, Bool.true_and]
  clear HR
  go_enter Tryz.func17, Tryz.ntmps17
  go_wp2_with fail
  refine HC.out.mono ?_
  rintro e w1 ⟨rfl, hb⟩
  have HP : Hid (Calls _ _ _ _ _) := anyPivot_any g c b1 l w1 (H1.out.next hb) hlen
  rw [← HV.out] at HP
  clear HC HV H1
  go_wp2_with fail
  refine HP.out.mono ?_
  rintro e w2 ⟨rfl, hb2⟩
  have hbw := hb.trans (hb2.mono hb.size)
  clear hb hb2 HP
  cases V
  all_goals
    go_wp2_with fail
    go_ret
    exact ⟨by rw [HF.out]; rfl, hbw⟩

set_option maxRecDepth 8000 in
set_option maxHeartbeats 4000000 in
theorem l09Dones_any (g c b1 : Nat) (l : List Dn) (w : World) (h1 : MadeDn w b1 g l) (hlen : l.length ≤ 1048576) (hs : ∀ v ∈ l, szDn v) :
    Calls Tryz.prog 14 #[.slice (some ⟨g, 0, none⟩) l.length c] w fun e w' => e = .returned (.bool (donesB l)) ∧ Below w.heap.size w w' := by
  have H1 : Hid (MadeDn _ _ _ _) := h1
  have HS : Hid (∀ v ∈ l, szDn v) := hs
  clear h1 hs
  obtain ⟨R, hR⟩ : ∃ R, R = donesB l := ⟨_, rfl⟩
  rw [← hR]
  obtain ⟨N, hN⟩ : ∃ N, N = decide (l.length ≤ 30) := ⟨_, rfl⟩
  have HR : Hid (R = (riseB (lastD l 0) (l.drop 0) && N)) := by show R = _; rw [hR, hN]; rfl
  have HNN : Hid (N = decide (l.length ≤ 30)) := hN
  clear hR hN
  go_enter Tryz.func14, Tryz.ntmps14
  go_wp2_with fail
  go_loopw [3] (fun i wr => ∃ (k : Nat), k ≤ l.length ∧ i = .int .i64 k ∧ R = (riseB (lastD l k) (l.drop k) && N) ∧ Below w.heap.size w wr) (fun i _ => l.length - (intOf i).toNat)
  case atStart => exact ⟨0, Nat.zero_le _, rfl, HR.out, Below.refl _ _⟩
  case round =>
    obtain ⟨k, hk, rfl, hrk, hbel⟩ := hrel
    clear HR
    by_cases hlt : k < l.length
    · have hlt2 : (k : Int) < (l.length : Int) := by omega
      have R1 := H1.out.next hbel
      obtain ⟨gr, gc, ⟨x0, x1, x2, x3, x4, x5⟩, u0, u1, u2⟩ := R1.cells k hlt
      have hg1 := R1.lt
      have hsk := HS.out l[k] (List.getElem_mem _)
      rw [riseB_step _ l k hlt] at hrk
      have HLA : Hid (lastD l (k + 1) = l[k].at_) := lastD_succ l k hlt
      have hlast : (k = 0 ∧ lastD l k = 0) ∨ ∃ m, k = m + 1 ∧ wr.cell? ⟨g, m * 6 + 1, none⟩ = some (.int .i64 (lastD l k)) := by
        cases k with
        | zero => exact .inl ⟨rfl, rfl⟩
        | succ m =>
          obtain ⟨_, _, ⟨_, e1, _⟩, _⟩ := R1.cells m (by omega)
          exact .inr ⟨m, rfl, by rw [lastD_succ l m (by omega)]; exact e1⟩
      obtain ⟨z, hz⟩ : ∃ z, z = lastD l k := ⟨_, rfl⟩
      rw [← hz] at hrk hlast
      obtain ⟨x, hx⟩ : ∃ x, x = l[k] := ⟨_, rfl⟩
      rw [← hx] at x0 x1 x2 x3 x4 x5 u0 u1 hsk hrk HLA
      have HC : Hid (∀ W : World, Below wr.heap.size wr W → Calls _ _ _ W _) := fun W hW => specDone_any x.sn x.at_ gr gc x.rs.length x.cs.length b1 x.di x.do_ x.rs x.cs W (u0.next hW) (u1.next hW) hsk.r0 hsk.s0 hsk.r1 hsk.s1
      have hdb : doneB x.sn x.at_ x.rs x.cs = dnB x := rfl
      rw [hdb] at HC
      have HPOS : Hid (dnB x = true → 0 < x.at_) := dnB_pos x
      have HRK : Hid (R = _) := hrk
      clear hz hx hdb R1 u0 u1 u2 hsk hrk
      have hnu : Nonempty (Under wr) := ⟨⟨wr, Below.refl _ _⟩⟩
      have hfork : True := trivial
      · clear hfork
        have s0 : ∀ u : Under wr, u.x.cell? ⟨g, k * 6, none⟩ = some (.int .i64 x.sn) := fun u => (u.h.cell hg1).trans x0
        have s1 : ∀ u : Under wr, u.x.cell? ⟨g, k * 6 + 1, none⟩ = some (.int .i64 x.at_) := fun u => (u.h.cell hg1).trans x1
        have s2 : ∀ u : Under wr, u.x.cell? ⟨g, k * 6 + 2, none⟩ = some (.slice (some ⟨gr, 0, none⟩) x.rs.length x.rs.length) := fun u => (u.h.cell hg1).trans x2
        have s3 : ∀ u : Under wr, u.x.cell? ⟨g, k * 6 + 3, none⟩ = some (.slice (some ⟨gc, 0, none⟩) x.cs.length x.cs.length) := fun u => (u.h.cell hg1).trans x3
        have s4 : ∀ u : Under wr, u.x.cell? ⟨g, k * 6 + 4, none⟩ = some (.bool x.di) := fun u => (u.h.cell hg1).trans x4
        have s5 : ∀ u : Under wr, u.x.cell? ⟨g, k * 6 + 5, none⟩ = some (.bool x.do_) := fun u => (u.h.cell hg1).trans x5
        clear x0 x1 x2 x3 x4 x5
        cases hD : dnB x
        · rw [hD] at HC
          have HF : Hid (R = false) := by show R = false; rw [HRK.out, hD]; cases decide (z < x.at_) <;> rfl
          clear hD HRK hlast HPOS
          go_wp2_with fail
          refine wp_region_under (by kernel_rfl) (by kernel_rfl) ?_
          repeat (go_big_quiet_step ((go_at_call 24; exact calls_under _ (HC.out _ (Under.h _)))))
          refine wpQuiet_nil ?_
          rintro _ ⟨u, rfl⟩
          have hbw := hbel.trans (u.h.mono hbel.size)
          go_wp2_with fail
          go_ret
          exact ⟨ret_bool' HF.out.symm, hbw⟩
        rw [hD] at HC
        have hpos := HPOS.out hD
        by_cases t1 : z < x.at_
        case neg =>
          have HF : Hid (R = false) := by show R = false; rw [HRK.out, decide_eq_false t1]; rfl
          rcases hlast with ⟨hk0, hz0⟩ | ⟨m, hkm, hcm⟩
          · omega
          have hkn : decide ((0 : Int) < (k : Int)) = true := decide_eq_true (by omega)
          have hkn2 : decide (0 < k) = true := decide_eq_true (by omega)
          have hks : (k : Int) - 1 = (m : Int) := by omega
          have hml : (m : Int) < (l.length : Int) := by omega
          have hzi' : decide (x.at_ ≤ z) = true := decide_eq_true (by omega)
          have r0 : ∀ u : Under wr, u.x.cell? ⟨g, m * 6 + 1, none⟩ = some (.int .i64 z) := fun u => (u.h.cell hg1).trans hcm
          clear hD HRK HPOS hkm hcm t1 hpos
          go_wp2_with fail
          refine wp_region_under (by kernel_rfl) (by kernel_rfl) ?_
          repeat (go_big_quiet_step ((go_at_call 24; exact calls_under _ (HC.out _ (Under.h _)))))
          refine wpQuiet_nil ?_
          rintro _ ⟨u, rfl⟩
          have hbw := hbel.trans (u.h.mono hbel.size)
          go_wp2_with fail
          go_ret
          exact ⟨ret_bool' HF.out.symm, hbw⟩
        have hzi' : decide (x.at_ ≤ z) = false := decide_eq_false (by omega)
        have hsplit : (decide ((0 : Int) < (k : Int)) = false ∧ decide (0 < k) = false) ∨ ∃ m : Nat, (decide ((0 : Int) < (k : Int)) = true ∧ decide (0 < k) = true) ∧ (k : Int) - 1 = (m : Int) ∧ (m : Int) < (l.length : Int) ∧ ∀ u : Under wr, u.x.cell? ⟨g, m * 6 + 1, none⟩ = some (.int .i64 z) := by
          rcases hlast with ⟨hk0, _⟩ | ⟨m, hkm, hcm⟩
          · exact .inl ⟨decide_eq_false (by omega), decide_eq_false (by omega)⟩
          · exact .inr ⟨m, ⟨decide_eq_true (by omega), decide_eq_true (by omega)⟩, by omega, by omega, fun u => (u.h.cell hg1).trans hcm⟩
        have hrk : R = ((!(x.di && x.do_) && riseB x.at_ (l.drop (k + 1))) && N) := by rw [HRK.out, hD, decide_eq_true t1]; rfl
        clear hlast HRK HPOS hD t1 hpos
        cases hi : x.di
        · rw [hi] at hrk s4 HC
          have HF : Hid (R = (riseB (lastD l (k + 1)) (l.drop (k + 1)) && N)) := by show R = _; rw [HLA.out, hrk]; rfl
          clear hrk hi
          rcases hsplit with ⟨hkn, hkn2⟩ | ⟨m, ⟨hkn, hkn2⟩, hks, hml, r0⟩
          all_goals
            go_wp2_with fail
            refine wp_region_under (by kernel_rfl) (by kernel_rfl) ?_
            repeat (go_big_quiet_step ((go_at_call 24; exact calls_under _ (HC.out _ (Under.h _)))))
            refine wpQuiet_nil ?_
            rintro _ ⟨u, rfl⟩
            have hbw := hbel.trans (u.h.mono hbel.size)
            go_wp2_with fail
            go_roundw
            case rel => exact ⟨k + 1, by omega, by go_num, HF.out, hbw⟩
            case measure => simp [intOf]; omega
        · cases hj : x.do_
          · rw [hi, hj] at hrk HC
            rw [hi] at s4
            rw [hj] at s5
            have HF : Hid (R = (riseB (lastD l (k + 1)) (l.drop (k + 1)) && N)) := by show R = _; rw [HLA.out, hrk]; rfl
            clear hrk hi hj
            rcases hsplit with ⟨hkn, hkn2⟩ | ⟨m, ⟨hkn, hkn2⟩, hks, hml, r0⟩
            all_goals
              go_wp2_with fail
              refine wp_region_under (by kernel_rfl) (by kernel_rfl) ?_
              repeat (go_big_quiet_step ((go_at_call 24; exact calls_under _ (HC.out _ (Under.h _)))))
              refine wpQuiet_nil ?_
              rintro _ ⟨u, rfl⟩
              have hbw := hbel.trans (u.h.mono hbel.size)
              go_wp2_with fail
              go_roundw
              case rel => exact ⟨k + 1, by omega, by go_num, HF.out, hbw⟩
              case measure => simp [intOf]; omega
          · rw [hi, hj] at hrk HC
            rw [hi] at s4
            rw [hj] at s5
            have HF : Hid (R = false) := by show R = _; rw [hrk]; rfl
            clear hrk hi hj
            rcases hsplit with ⟨hkn, hkn2⟩ | ⟨m, ⟨hkn, hkn2⟩, hks, hml, r0⟩
            all_goals
              go_wp2_with fail
              refine wp_region_under (by kernel_rfl) (by kernel_rfl) ?_
              repeat (go_big_quiet_step ((go_at_call 24; exact calls_under _ (HC.out _ (Under.h _)))))
              refine wpQuiet_nil ?_
              rintro _ ⟨u, rfl⟩
              have hbw := hbel.trans (u.h.mono hbel.size)
              go_wp2_with fail
              go_ret
              exact ⟨ret_bool' HF.out.symm, hbw⟩
    · have hlt2 : ¬ (k : Int) < (l.length : Int) := by omega
      rw [riseB_end _ l k (by omega), Bool.true_and, HNN.out] at hrk
      subst hrk
      by_cases h30 : l.length ≤ 30
      · have h31 : (l.length : Int) ≤ 30 := by omega
        rw [decide_eq_true h30]
        go_wp2_with fail
        go_ret
        exact ⟨by first | rfl | exact ret_bool' (by simp), hbel⟩
      · have h31 : ¬ (l.length : Int) ≤ 30 := by omega
        rw [decide_eq_false h30]
        go_wp2_with fail
        go_ret
        exact ⟨by first | rfl | exact ret_bool' (by simp), hbel⟩

end Go.Proofs.YthjimbnpkkpbkaaGreatDoor.Ce

/- Rows of numbers: what the laws' helpers on them answer; two numbers put behind them. -/
namespace Go.Proofs.YthjimbnpkkpbkaaGreatDoor.Ce
open Go.RowKit Tr
set_option linter.unusedVariables false

theorem growN_trans {a b c : World} {row : Option Nat} (h : a.grownBy b row) (k : b.grownBy c row) : a.grownBy c row :=
  ⟨k.os.trans h.os, k.tape.trans h.tape, k.output.trans h.output, Nat.le_trans h.size k.size, fun i hi hne => (k.block i (Nat.lt_of_lt_of_le hi h.size) hne).trans (h.block i hi hne)⟩
theorem growN_refl (a : World) (row : Option Nat) : a.grownBy a row := ⟨rfl, rfl, rfl, Nat.le_refl _, fun _ _ _ => rfl⟩
def intsV (l : List Int) : List Value := l.map fun z => .int .i64 z
def OwnI (w : World) (base : Nat) (v : Value) (l : List Int) : Prop := w.ownsRow base 3 1 v l.length (intsV l)
theorem infoZ : (Tryz.prog.info? 3).map (fun i => (i.zero, i.size, i.bytes)) = some (some (.int .i64 0), 1, 8) := by kernel_rfl
/-- A row of numbers at a block's head, a nil one too. -/
def InN (w : World) (a : Option Addr) (l : List Int) : Prop := l.length = 0 ∨ ∃ g, a = some ⟨g, 0, none⟩ ∧ g < w.heap.size ∧ ∀ i (h : i < l.length), w.cell? ⟨g, i, none⟩ = some (.int .i64 l[i])
theorem InN.step {w w' : World} {a : Option Addr} {l : List Int} (h : InN w a l) (hb : Below w.heap.size w w') : InN w' a l := by
  rcases h with h | ⟨g, ha, hlt, hc⟩
  · exact .inl h
  · exact .inr ⟨g, ha, Nat.lt_of_lt_of_le hlt hb.size, fun i hi => (hb.cell hlt).trans (hc i hi)⟩
theorem intsV_get (l : List Int) (i : Nat) (h : i < l.length) : (intsV l)[i]? = some (.int .i64 l[i]) := by unfold intsV; simp [List.getElem?_eq_getElem h]
theorem intsV_set (l : List Int) (i : Nat) (z : Int) : (intsV l).set i (.int .i64 z) = intsV (l.set i z) := by unfold intsV; rw [List.map_set]
theorem OwnI.form {w : World} {base : Nat} {v : Value} {l : List Int} (h : OwnI w base v l) : (v = .slice none 0 0 ∧ l = []) ∨ ∃ g cap, v = .slice (some ⟨g, 0, none⟩) l.length cap ∧ base ≤ g ∧ g < w.heap.size := by
  have hlt := World.ownsRow.lt h
  obtain ⟨h1, h2⟩ := h
  rcases h2 with ⟨h2, h3⟩ | ⟨g, cap, cur, hv, hg, hh, r⟩
  · exact .inl ⟨h2, List.length_eq_zero_iff.1 h3⟩
  · exact .inr ⟨g, cap, hv, hg, (hlt g (by rw [hv]; rfl)).2⟩
theorem OwnI.inN {w : World} {base : Nat} {v : Value} {l : List Int} (h : OwnI w base v l) : ∃ p cap, v = .slice p l.length cap ∧ InN w p l := by
  rcases h.form with ⟨rfl, rfl⟩ | ⟨g, cap, rfl, _, hg⟩
  · exact ⟨none, 0, rfl, .inl rfl⟩
  · exact ⟨_, cap, rfl, .inr ⟨g, rfl, hg, fun i hi => owns_cell h i _ (intsV_get l i hi)⟩⟩

set_option maxRecDepth 4000 in
set_option maxHeartbeats 1000000 in
theorem eqIntS_same (p1 p2 : Option Addr) (c1 c2 : Nat) (l : List Int) (w : World) (h1 : InN w p1 l) (h2 : InN w p2 l) (hlen : l.length ≤ 1048576) :
    Calls Tryz.prog 8 #[.slice p1 l.length c1, .slice p2 l.length c2] w fun e w' => e = .returned (.bool true) ∧ Below w.heap.size w w' := by
  have H1 : Hid (InN _ _ _) := h1
  have H2 : Hid (InN _ _ _) := h2
  clear h1 h2
  go_enter Tryz.func8, Tryz.ntmps8
  go_wp2_with fail
  go_loopw [5] (fun i wr => ∃ k : Nat, k ≤ l.length ∧ i = .int .i64 k ∧ Below w.heap.size w wr) (fun i _ => l.length - (intOf i).toNat)
  case atStart => exact ⟨0, Nat.zero_le _, rfl, Below.refl _ _⟩
  case round =>
    obtain ⟨k, hk, rfl, hbel⟩ := hrel
    by_cases hlt : k < l.length
    · rcases H1.out.step hbel with h0 | ⟨g1, rfl, l1, x1⟩
      · omega
      rcases H2.out.step hbel with h0 | ⟨g2, rfl, l2, x2⟩
      · omega
      have hk1 : (k : Int) < (l.length : Int) := by omega
      have q0 : ∀ u : Under wr, u.x.cell? ⟨g1, k, none⟩ = some (.int .i64 l[k]) := fun u => (u.h.cell l1).trans (x1 k hlt)
      have r0 : ∀ u : Under wr, u.x.cell? ⟨g2, k, none⟩ = some (.int .i64 l[k]) := fun u => (u.h.cell l2).trans (x2 k hlt)
      have hnu : Nonempty (Under wr) := ⟨⟨wr, Below.refl _ _⟩⟩
      clear x1 x2
      go_wp2_with fail
      refine wp_region_under (by kernel_rfl) (by kernel_rfl) ?_
      repeat (go_big_quiet_step (fail))
      refine wpQuiet_nil ?_
      rintro _ ⟨u, rfl⟩
      go_wp2_with fail
      go_roundw
      case rel => exact ⟨k + 1, by omega, by go_num, hbel.trans (u.h.mono hbel.size)⟩
      case measure => simp [intOf]; omega
    · have hlt2 : ¬ (k : Int) < (l.length : Int) := by omega
      go_wp2_with fail
      go_ret
      exact ⟨rfl, hbel⟩

def marksN (q n : Nat) : List Int := (List.range n).map fun i : Nat => (q : Int) + (i : Int)
theorem marksN_len (q n : Nat) : (marksN q n).length = n := by unfold marksN; simp
def markMixN (q : Nat) (l : List Int) (k : Nat) : List Int := marksN q k ++ l.drop k
theorem markMixN_len (q : Nat) (l : List Int) (k : Nat) (h : k ≤ l.length) : (markMixN q l k).length = l.length := by unfold markMixN; rw [List.length_append, marksN_len, List.length_drop]; omega
theorem markMixN_zero (q : Nat) (l : List Int) : markMixN q l 0 = l := by unfold markMixN marksN; simp
theorem markMixN_full (q : Nat) (l : List Int) : markMixN q l l.length = marksN q l.length := by unfold markMixN; simp
theorem markMixN_set (q : Nat) (l : List Int) (k : Nat) (h : k < l.length) : (markMixN q l k).set k ((q : Int) + (k : Int)) = markMixN q l (k + 1) := by
  unfold markMixN
  rw [List.set_append_right _ _ (by rw [marksN_len]; omega), marksN_len, Nat.sub_self]
  have e : marksN q (k + 1) = marksN q k ++ [(q : Int) + (k : Int)] := by unfold marksN; rw [List.range_succ, List.map_append]; rfl
  rw [e, List.append_assoc]
  congr 1
  rw [List.drop_eq_getElem_cons h]; rfl
set_option maxRecDepth 4000 in
set_option maxHeartbeats 2000000 in
theorem markIntS_any (base : Nat) (v : Value) (l : List Int) (q : Nat) (w : World) (hown : OwnI w base v l) (hq : q ≤ 1048576) (hl : l.length ≤ 1048576) :
    Calls Tryz.prog 11 #[v, .int .i64 q] w fun e w' => e = .returned (.int .i64 ((q + l.length : Nat) : Int)) ∧ OwnI w' base v (marksN q l.length) ∧ w.grownBy w' v.ownBlock := by
  rcases hown.form with ⟨rfl, rfl⟩ | ⟨g, c, rfl, hgb, hgl⟩
  · have HO0 : Hid (OwnI _ _ _ _) := hown
    clear hown
    go_enter Tryz.func11, Tryz.ntmps11
    go_wp2_with fail
    refine wp_loop_rounds 1 ?_
    rw [rounds_succ]
    go_wp2_with fail
    go_ret
    exact ⟨rfl, HO0.out, growN_refl _ _⟩
  · have HO0 : Hid (OwnI _ _ _ _) := hown
    clear hown
    go_enter Tryz.func11, Tryz.ntmps11
    go_wp2_with fail
    go_loopw [1, 5] (fun x i wr => ∃ k : Nat, k ≤ l.length ∧ i = .int .i64 k ∧ x = .int .i64 ((q + k : Nat) : Int) ∧ wr.ownsRow base 3 1 (.slice (some ⟨g, 0, none⟩) l.length c) l.length (intsV (markMixN q l k)) ∧ w.grownBy wr (some g)) (fun _ i _ => l.length - (intOf i).toNat)
    case atStart => exact ⟨0, Nat.zero_le _, rfl, rfl, by rw [markMixN_zero]; exact HO0.out, growN_refl _ _⟩
    case round =>
      obtain ⟨k, hk, rfl, rfl, hown, hgr⟩ := hrel
      have HB : Hid (World.grownBy _ _ _) := hgr
      clear hgr HO0
      by_cases hlt : k < l.length
      · have hlt2 : (k : Int) < (l.length : Int) := by omega
        obtain ⟨z0, y0⟩ := Tr.own_there hown k (by omega)
        have f0 := World.ownsRow.frozenAt hown k
        have hst := (World.ownsRow.stored hown k (.int .i64 ((q : Int) + (k : Int)))).1
        rw [intsV_set, markMixN_set q l k hlt] at hst
        have HS : Hid (World.ownsRow _ _ _ _ _ _ _) := hst
        have hglr : g < wr.heap.size := (hown.lt g rfl).2
        clear hst hown
        go_wp2_with fail
        go_roundw
        case rel => exact ⟨k + 1, by omega, by go_num, by go_num, HS.out, growN_trans HB.out grown_set⟩
        case measure => simp [intOf]; omega
      · obtain rfl : k = l.length := by omega
        rw [markMixN_full] at hown
        have HO : Hid (World.ownsRow _ _ _ _ _ _ _) := hown
        clear hown
        go_wp2_with fail
        go_ret
        exact ⟨rfl, by unfold OwnI; rw [marksN_len]; exact HO.out, HB.out⟩
set_option maxRecDepth 4000 in
set_option maxHeartbeats 2000000 in
theorem heldIntS_any (a : Option Addr) (c n : Nat) (q : Nat) (w : World) (hr : InN w a (marksN q n)) (hq : q ≤ 1048576) (hl : n ≤ 1048576) :
    Calls Tryz.prog 12 #[.slice a n c, .int .i64 q] w fun e w' => e = .returned (.int .i64 ((q + n : Nat) : Int)) ∧ Below w.heap.size w w' := by
  have HR : Hid (InN _ _ _) := hr
  clear hr
  go_enter Tryz.func12, Tryz.ntmps12
  go_wp2_with fail
  go_loopw [1, 5] (fun x i wr => ∃ k : Nat, k ≤ n ∧ i = .int .i64 k ∧ x = .int .i64 ((q + k : Nat) : Int) ∧ Below w.heap.size w wr) (fun _ i _ => n - (intOf i).toNat)
  case atStart => exact ⟨0, Nat.zero_le _, rfl, rfl, Below.refl _ _⟩
  case round =>
    obtain ⟨k, hk, rfl, rfl, hbel⟩ := hrel
    by_cases hlt : k < n
    · rcases HR.out.step hbel with h0 | ⟨g, rfl, l1, x⟩
      · rw [marksN_len] at h0; omega
      have x0 := x k (by rw [marksN_len]; exact hlt)
      rw [show (marksN q n)[k]'(by rw [marksN_len]; exact hlt) = (q : Int) + (k : Int) by simp [marksN]] at x0
      have hk1 : (k : Int) < (n : Int) := by omega
      clear x
      go_wp2_with fail
      go_roundw
      case rel => exact ⟨k + 1, by omega, by go_num, by go_num, hbel⟩
      case measure => simp [intOf]; omega
    · obtain rfl : k = n := by omega
      go_wp2_with fail
      go_ret
      exact ⟨rfl, hbel⟩


theorem intsV_app (l : List Int) (x y : Int) : intsV (l ++ [x, y]) = intsV l ++ [.int .i64 x, .int .i64 y] := by unfold intsV; simp
theorem cellTwo (w : World) (a b : Value) (T : TypeId) : ∀ (j : Nat) (u : Value), [a, b][j]? = some u → (w.alloc (.cells #[a, b] T)).cell? ((⟨w.heap.size, 0, none⟩ : Addr).add j) = some u := by
  intro j u hj
  match j, hj with
  | 0, hj => simp at hj; subst hj; simp [Addr.add, go_sem]
  | 1, hj => simp at hj; subst hj; simp [Addr.add, go_sem]
  | j + 2, hj => simp at hj
/-- Two numbers behind a row of the call's own. -/
theorem appTwoI {ops : Array Oper} {rest : List Oper} {o : Oper} {a : Act} {Q : Exit → Act → World → Prop} {w : World} (hgd : o.guard = none) (s x : Operand)
    (ho : o.op = .call { callee := .builtin .append, args := #[s, x], argTypes := #[24, 24] }) (B : Nat) (v : Value) (l : List Int) (c c' : Int)
    (ad : Nat) (hs : a.eval s = v) (hx : a.eval x = .slice (some ⟨ad, 0, none⟩) 2 2) (had : ad = w.heap.size) (hown : OwnI w B v l) (hB : B ≤ w.heap.size) (hlim : l.length ≤ 1000000)
    (h : ∀ v' w', OwnI w' B v' (l ++ [c, c']) → Below B w w' → wpList Tryz.prog ops Q rest (a.put o.dst v') w') :
    wpList Tryz.prog ops Q (o :: rest) a (w.alloc (.cells #[.int .i64 c, .int .i64 c'] 3)) := by
  subst had
  obtain ⟨i0, hi, hz0, hz1, hz2⟩ := info_parts infoZ
  refine wpList_append_own _ hgd s x 24 ho B 3 i0 (.int .i64 0) 1 8 Tryz.underlying24 hi hz0 hz1 hz2 rfl (by decide) _ _ _ hs (World.ownsRow.alloc hown _) ⟨w.heap.size, 0, none⟩ 2 2 [.int .i64 c, .int .i64 c'] hx rfl (cellTwo _ _ _ _) (by intro u hu; simp at hu; rcases hu with rfl | rfl <;> rfl) (by unfold maxLen; omega) (by omega) (by simp; omega) ?_
  intro v' w' hown' hgrow _
  have ha : Below B w (w.alloc (.cells #[.int .i64 c, .int .i64 c'] 3)) := (Below.refl _ _).alloc hB _
  refine h v' w' ?_ (Below.grown ha hgrow (by simp; omega) (fun k hk => (World.ownsRow.lt hown k hk).1))
  unfold OwnI
  rw [intsV_app, List.length_append]
  exact hown'
theorem appTwoIn {F : Fence} {n : Nat} {ops : Array Oper} {rest : List Oper} {o : Oper} {a : Act} {Q : Exit → Act → World → Prop} {w : World} (hgd : o.guard = none) (s x : Operand)
    (ho : o.op = .call { callee := .builtin .append, args := #[s, x], argTypes := #[24, 24] }) (B : Nat) (v : Value) (l : List Int) (c c' : Int)
    (ad : Nat) (hs : a.eval s = v) (hx : a.eval x = .slice (some ⟨ad, 0, none⟩) 2 2) (had : ad = w.heap.size) (hown : OwnI w B v l) (hB : B ≤ w.heap.size) (hlim : l.length ≤ 1000000)
    (h : ∀ v' w', OwnI w' B v' (l ++ [c, c']) → (w.alloc (.cells #[.int .i64 c, .int .i64 c'] 3)).grownBy w' v.ownBlock → wpListIn F n Tryz.prog ops Q rest (a.put o.dst v') w') :
    wpListIn F n Tryz.prog ops Q (o :: rest) a (w.alloc (.cells #[.int .i64 c, .int .i64 c'] 3)) := by
  subst had
  obtain ⟨i0, hi, hz0, hz1, hz2⟩ := info_parts infoZ
  refine wpListIn_append_own _ hgd s x 24 ho B 3 i0 (.int .i64 0) 1 8 Tryz.underlying24 hi hz0 hz1 hz2 rfl (by decide) _ _ _ hs (World.ownsRow.alloc hown _) ⟨w.heap.size, 0, none⟩ 2 2 [.int .i64 c, .int .i64 c'] hx rfl (cellTwo _ _ _ _) (by intro u hu; simp at hu; rcases hu with rfl | rfl <;> rfl) (by unfold maxLen; omega) (by omega) (by simp; omega) ?_
  intro v' w' hown' hgrow _
  refine h v' w' ?_ hgrow
  unfold OwnI
  rw [intsV_app, List.length_append]
  exact hown'

end Go.Proofs.YthjimbnpkkpbkaaGreatDoor.Ce

/- Which places EdgesOf tells. -/
namespace Go.Proofs.YthjimbnpkkpbkaaGreatDoor.Ce
open Go.RowKit Tr Co Rea
set_option linter.unusedVariables false

theorem dn_parts (x : Dn) (h : dnB x = true) : x.rs.length ≤ 1048576 ∧ x.cs.length ≤ 1048576 ∧ (∀ v ∈ x.rs, okR v = true) ∧ ∀ v ∈ x.cs, okCg v = true := by
  unfold dnB doneB listsB at h
  simp only [Bool.and_eq_true, decide_eq_true_eq] at h
  obtain ⟨_, _, h1, h2, h3, h4⟩ := h
  refine ⟨by omega, by omega, List.all_eq_true.1 h1, ?_⟩
  have h5 := lstB_from x.cs x.cs.length 0 (by omega)
  rw [List.take_zero, List.drop_zero] at h5
  intro v hv
  obtain ⟨i, hi, rfl⟩ := List.mem_iff_getElem.1 hv
  exact ((h5.1 h2) i hi (Nat.zero_le _)).1
theorem riseB_all : ∀ (z : Int) (l : List Dn), riseB z l = true → ∀ x ∈ l, dnB x = true
  | _, [], _, x, hx => by simp at hx
  | z, a :: t, h, x, hx => by
    unfold riseB at h
    simp only [Bool.and_eq_true] at h
    rcases List.mem_cons.mp hx with rfl | hx
    · exact h.2.1
    · exact riseB_all a.at_ t h.2.2.2 x hx
theorem dones_parts (l : List Dn) (h : donesB l = true) : l.length ≤ 30 ∧ ∀ x ∈ l, dnB x = true := by
  unfold donesB at h
  simp only [Bool.and_eq_true, decide_eq_true_eq] at h
  exact ⟨h.2, riseB_all 0 l h.1⟩
def aheadD (a b : Dn) : Bool := aheadB a.sn a.at_ b.sn b.at_ a.rs b.cs
/-- The one at a place must come ahead of the one at another place. -/
def edgeP (l : List Dn) (i j : Nat) : Bool := match l[i]?, l[j]? with | some a, some b => aheadD a b | _, _ => false
theorem edgeP_at (l : List Dn) (k : Nat) (hk : k < l.length) (q : Nat) (hq : q < l.length) : edgeP l k q = aheadD l[k] l[q] := by
  simp [edgeP, List.getElem?_eq_getElem hk, List.getElem?_eq_getElem hq]
def otherP (l : List Dn) (i j : Nat) : Bool := (i != j) && edgeP l i j
theorem upTo_other (l : List Dn) (m k q : Nat) : (upTo m (edgeP l) k q).filter (fun x => x.1 != x.2) = upTo m (otherP l) k q := by
  unfold upTo
  rw [List.filter_append, List.filter_flatMap, List.filter_map, List.filter_filter]
  congr 1
  · congr 1
    funext i
    rw [List.filter_map, List.filter_filter]
    rfl
def pairI (x : Nat × Nat) : List Int := [(x.1 : Int), (x.2 : Int)]
def intsP (ps : List (Nat × Nat)) : List Int := ps.flatMap pairI
theorem intsP_add (ps : List (Nat × Nat)) (k q : Nat) : intsP (ps ++ [(k, q)]) = intsP ps ++ [(k : Int), (q : Int)] := by simp [intsP, pairI]
theorem intsP_len : ∀ ps : List (Nat × Nat), (intsP ps).length = 2 * ps.length
  | [] => rfl
  | a :: t => by
    have := intsP_len t
    unfold intsP at this ⊢
    rw [List.flatMap_cons, List.length_append, this]
    simp [pairI]; omega
/-- What EdgesOf tells. -/
def edgL (l : List Dn) : List Int := if donesB l = true then intsP (upTo l.length (otherP l) l.length 0) else []
def edgC (l : List Dn) : Int := if 4096 < l.length then 2 else if donesB l = true then 0 else 1
theorem other_len (l : List Dn) (h : l.length ≤ 30) (k q : Nat) (hk : k ≤ l.length) (hq : q ≤ l.length) : (intsP (upTo l.length (otherP l) k q)).length ≤ 2000 := by
  rw [intsP_len]
  have h1 := upTo_length l.length (otherP l) k q
  have h2 : k * l.length ≤ 30 * 30 := Nat.mul_le_mul (by omega) h
  omega
theorem edgL_len (l : List Dn) : (edgL l).length ≤ 2000 := by
  unfold edgL
  cases h : donesB l
  · simp
  · rw [if_pos rfl]
    exact other_len l (dones_parts l h).1 _ _ (Nat.le_refl _) (Nat.zero_le _)
/-- What an answer of EdgesOf is. -/
def EdR (l : List Dn) (w : World) (e : Ending) (w' : World) : Prop := (∃ v, e = .returned (.tuple #[v, .int .i64 (edgC l)]) ∧ OwnI w' w.heap.size v (edgL l)) ∧ Below w.heap.size w w'
theorem OwnI.nil (w : World) (base : Nat) : OwnI w base (.slice none 0 0) [] := ⟨rfl, .inl ⟨rfl, rfl⟩⟩
theorem OwnI.made (w : World) (base : Nat) (h : base ≤ w.heap.size) : OwnI (w.alloc (.cells #[] 3)) base (.slice (some ⟨w.heap.size, 0, none⟩) 0 0) [] :=
  World.ownsRow_made (size := 1) (e := 3) w #[] 0 h (by unfold maxLen; omega) rfl

end Go.Proofs.YthjimbnpkkpbkaaGreatDoor.Ce

/- The pairs of committed ones that are bound: the iterator's walk. -/
namespace Go.Proofs.YthjimbnpkkpbkaaGreatDoor.Ce
open Go.RowKit Go.Shelf Tr Co Rea
set_option linter.unusedVariables false
attribute [local go_sem] Oper.semAt_some

set_option maxRecDepth 100000 in
set_option maxHeartbeats 4000000 in
theorem pairsD_in (Kp : World → World → Prop) (krefl : ∀ W, Kp W W) (ktrans : ∀ {A B C : World}, Kp A B → Kp B C → Kp A C) (kbel : ∀ W W' : World, Below W.heap.size W W' → Kp W W') (kbx : ∀ (U U' : World) (b : Nat) (vs : Array Value), U.heap[b]? = some (.cells vs 44) → Kp U U' → U'.heap[b]? = some (.cells vs 44))
    (n : Nat) (hn : 1 ≤ n) (l B1 B2 B3 g b1 c1 c2 n1 : Nat) (ds : List Dn) (P : Nat → Nat → Bool) (hP : ∀ k (hk : k < ds.length) q (hq : q < ds.length), P k q = aheadD ds[k] ds[q]) (hl : ds.length ≤ 1048576) (hd : ∀ v ∈ ds, dnB v = true) (J Jx : List (Nat × Nat) → World → Prop) (hJ : AbidesFrom n1 J)
    (hY : ∀ pre x W, J pre W → pre.length < ds.length * ds.length → YieldAt Fence.wide (n - 1) Tryz.prog l #[.int .i64 (x.1 : Int), .int .i64 (x.2 : Int)] W fun e W' =>
      (e = .returned (.bool true) ∧ J (pre ++ [x]) W' ∧ Kp W W') ∨ (e = .returned (.bool false) ∧ Jx (pre ++ [x]) W'))
    (W : World) (hF : ∀ W', Kp W W' → W'.cell? ⟨B1, 0, none⟩ = some (.slice (some ⟨g, 0, none⟩) ds.length c1) ∧ W'.cell? ⟨B2, 0, none⟩ = some (.slice (some ⟨g, 0, none⟩) ds.length c2) ∧ W'.cell? ⟨B3, 0, none⟩ = some (.func (.func 33) #[] #[]) ∧ MadeDn W' b1 g ds) (hG : ∀ (W1 W2 : World) (k : Nat) (hk : k < ds.length) (gr : Nat), Kp W W1 → Kp W W2 → W1.cell? ⟨g, k * 6 + 2, none⟩ = some (.slice (some ⟨gr, 0, none⟩) ds[k].rs.length ds[k].rs.length) → MadeRd W1 b1 gr ds[k].rs → MadeRd W2 b1 gr ds[k].rs) (h0 : J [] W) :
    CallsIn Fence.wide n Tryz.prog 47 #[.func (.yield l) #[] #[], .pointer (some ⟨B1, 0, none⟩), .pointer (some ⟨B2, 0, none⟩), .pointer (some ⟨B3, 0, none⟩)] W fun e W' => (∃ v, e = .returned v) ∧
      ((∃ ys, ys = upTo ds.length P ds.length 0 ∧ J ys W') ∨ (∃ pre, (∀ x ∈ pre, Gd ds.length ds.length P x) ∧ Jx pre W')) := by
  have HF : Hid (∀ W', Kp W W' → _) := hF
  have HPP : Hid (∀ k (hk : k < ds.length) q (hq : q < ds.length), P k q = aheadD ds[k] ds[q]) := hP
  have HD : Hid (∀ v ∈ ds, dnB v = true) := hd
  have HBX : Hid (∀ (U U' : World) (b : Nat) (vs : Array Value), U.heap[b]? = some (.cells vs 44) → Kp U U' → U'.heap[b]? = some (.cells vs 44)) := kbx
  obtain ⟨hB1, -, -, -⟩ := hF W (krefl W)
  clear hF hP hd kbx
  refine callsIn_of_wp Tryz.func47 rfl trivial ?_ rfl
  simp only [Tryz.ntmps47, List.size_toArray, List.length_cons, List.length_nil, Nat.reduceAdd, Nat.reduceSub, Array.replicate_succ, Array.replicate_zero, List.push_toArray, List.append_toArray, List.nil_append, List.cons_append]
  gi_wp2
  refine wpIn_wide.2 (wp_scope_straight ((wpIn_wide (n := n)).1 ?_))
  refine wpIn_seq (wpIn_label ?_)
  gi_wp2
  clear hB1
  gi_loopw [11] (fun i wr => ∃ (k : Nat), k ≤ ds.length ∧ i = .int .i64 k ∧ J (upTo ds.length P k 0) wr ∧ Kp W wr)
    (fun i _ => ds.length - (intOf i).toNat)
  case atStart => exact ⟨0, Nat.zero_le _, rfl, by rw [upTo_zero]; exact h0, krefl _⟩
  case round =>
    obtain ⟨k, hk, rfl, hJs, hkc⟩ := hrel
    by_cases hlt : k < ds.length
    · have hlt2 : (k : Int) < (ds.length : Int) := by omega
      obtain ⟨_, hB2w, _, R1⟩ := HF.out _ hkc
      obtain ⟨gr, gc, ⟨x0, x1, x2, x3, x4, x5⟩, u0, u1, u2⟩ := R1.cells k hlt
      have hg1 := R1.lt
      have HSM : Hid (∀ (q : Nat) (h : q < ds.length), P k q = aheadD ds[k] ds[q]) := fun q h => HPP.out k hlt q h
      have hdx := dn_parts ds[k] (HD.out _ (List.getElem_mem _))
      obtain ⟨x, hx⟩ : ∃ x, x = ds[k] := ⟨_, rfl⟩
      rw [← hx] at x0 x1 x2 x3 x4 x5 u0 u1 hdx HSM
      have HKR : Hid (∀ W2, Kp W W2 → MadeRd W2 b1 gr x.rs) := fun W2 h2 => by rw [hx]; exact hG wr W2 k hlt gr hkc h2 (by rw [← hx]; exact x2) (by rw [← hx]; exact u0)
      have HDX : Hid (_ ∧ _) := hdx
      clear hx u0 u1 u2 hdx
      have hal : Below wr.heap.size wr (wr.alloc (.cells #[.int .i64 x.sn, .int .i64 x.at_, .slice (some ⟨gr, 0, none⟩) x.rs.length x.rs.length, .slice (some ⟨gc, 0, none⟩) x.cs.length x.cs.length, .bool x.di, .bool x.do_] 44)) := (Below.refl _ _).alloc (Nat.le_refl _) _
      have HJ5 : Hid (J (upTo ds.length P k 0) _) := hJ _ _ _ none hJs (grown_of_below hal) (fun r e => by cases e)
      have HK5 : Hid (Kp W _) := ktrans hkc (kbel _ _ hal)
      have HX5 : Hid ((wr.alloc (.cells #[.int .i64 x.sn, .int .i64 x.at_, .slice (some ⟨gr, 0, none⟩) x.rs.length x.rs.length, .slice (some ⟨gc, 0, none⟩) x.cs.length x.cs.length, .bool x.di, .bool x.do_] 44)).heap[wr.heap.size]? = some (.cells #[.int .i64 x.sn, .int .i64 x.at_, .slice (some ⟨gr, 0, none⟩) x.rs.length x.rs.length, .slice (some ⟨gc, 0, none⟩) x.cs.length x.cs.length, .bool x.di, .bool x.do_] 44)) := heap_alloc_new _ _
      clear hal
      have hl2 := cell_lt hB2w
      clear R1
      gi_wp2
      clear x0 x1 x2 x3 x4 x5 hB2w hl2 hg1
      generalize wr.alloc _ = W5 at HJ5 HK5 HX5 ⊢
      gi_loopw [18] (fun j wq => ∃ (q : Nat), q ≤ ds.length ∧ j = .int .i64 q ∧ J (upTo ds.length P k q) wq ∧ Kp W5 wq)
        (fun j _ => ds.length - (intOf j).toNat)
      case atStart => exact ⟨0, Nat.zero_le _, rfl, HJ5.out, krefl _⟩
      case round =>
        obtain ⟨q, hq, rfl, hJq, hkq⟩ := hrel
        by_cases hlq : q < ds.length
        · have hlq2 : (q : Int) < (ds.length : Int) := by omega
          have hkW := ktrans HK5.out hkq
          obtain ⟨_, _, hB3w, R1⟩ := HF.out _ hkW
          obtain ⟨kr, kc, ⟨x0, x1, x2, x3, x4, x5⟩, v0, v1, v2⟩ := R1.cells q hlq
          have hg1 := R1.lt
          have hl3 := cell_lt hB3w
          have hXw := HBX.out _ _ _ _ HX5.out hkq
          obtain ⟨y0, y1, y2, y3, y4, y5⟩ := sixDn hXw
          have hly := cell_lt y0
          have HG : Hid (P k q = aheadD x ds[q]) := HSM.out q hlq
          have hdy := dn_parts ds[q] (HD.out _ (List.getElem_mem _))
          obtain ⟨y, hy⟩ : ∃ y, y = ds[q] := ⟨_, rfl⟩
          rw [← hy] at x0 x1 x2 x3 x4 x5 v0 v1 hdy HG
          clear hy R1
          have hur : MadeRd wr b1 gr x.rs := HKR.out _ hkW
          have hal : Below wr.heap.size wr (wr.alloc (.cells #[.int .i64 y.sn, .int .i64 y.at_, .slice (some ⟨kr, 0, none⟩) y.rs.length y.rs.length, .slice (some ⟨kc, 0, none⟩) y.cs.length y.cs.length, .bool y.di, .bool y.do_] 44)) := (Below.refl _ _).alloc (Nat.le_refl _) _
          have HCA : Hid (Calls _ _ _ _ _) := comesAhead_any x.sn x.at_ y.sn y.at_ x.di x.do_ y.di y.do_ (some ⟨gc, 0, none⟩) (some ⟨kr, 0, none⟩) x.cs.length x.cs.length y.rs.length y.rs.length gr kc x.rs.length y.cs.length b1 x.rs y.cs (wr.alloc (.cells #[.int .i64 y.sn, .int .i64 y.at_, .slice (some ⟨kr, 0, none⟩) y.rs.length y.rs.length, .slice (some ⟨kc, 0, none⟩) y.cs.length y.cs.length, .bool y.di, .bool y.do_] 44)) (hur.next hal) (v1.next hal) HDX.out.1 hdy.2.1 HDX.out.2.2.1 hdy.2.2.2
          have hab : aheadB x.sn x.at_ y.sn y.at_ x.rs y.cs = aheadD x y := rfl
          rw [hab] at HCA
          clear hab hur v0 v1 v2 hdy hXw
          cases hP : aheadD x y
          · have HP : Hid (aheadD x y = false) := hP
            have HN : Hid (P k q = false) := HG.out.trans hP
            clear hP
            gi_wp2
            refine ⟨trivial, (callsIn_wide.2 HCA.out).mono ?_⟩
            rintro e w1 ⟨rfl, hb⟩
            rw [HP.out]
            have hBq : Below wr.heap.size wr w1 := hal.trans (hb.mono (by simp))
            have hJ1 : J (upTo ds.length P k q) w1 := hJ _ _ _ none hJq (grown_of_below hBq) (fun r e => by cases e)
            have hk1 : Kp W5 w1 := ktrans hkq (kbel _ _ hBq)
            clear hb x0 x1 x2 x3 x4 x5 y0 y1 y2 y3 y4 y5 hBq hal
            gi_wp2
            refine ⟨fun _ h => (by cases h), ?_⟩
            gi_wp2
            go_roundw
            case rel => exact ⟨q + 1, by omega, by go_num, by rw [upTo_next _ _ _ _ HN.out]; exact hJ1, hk1⟩
            case measure => simp [intOf]; omega
          · have HP : Hid (aheadD x y = true) := hP
            have HN : Hid (P k q = true) := HG.out.trans hP
            clear hP
            gi_wp2
            refine ⟨trivial, (callsIn_wide.2 HCA.out).mono ?_⟩
            rintro e w1 ⟨rfl, hb⟩
            rw [HP.out]
            have hBq : Below wr.heap.size wr w1 := hal.trans (hb.mono (by simp))
            have hJ1 : J (upTo ds.length P k q) w1 := hJ _ _ _ none hJq (grown_of_below hBq) (fun r e => by cases e)
            have hk1 : Kp W5 w1 := ktrans hkq (kbel _ _ hBq)
            clear hb x0 x1 x2 x3 x4 x5 y0 y1 y2 y3 y4 y5 hBq hal
            obtain ⟨fn, tmps, assign, body, hy, hR⟩ := hY (upTo ds.length P k q) (k, q) w1 hJ1 (upTo_room _ _ _ _ _ hlt hlq)
            dsimp only at hy
            gi_wp2
            refine hR.mono ?_
            rintro e W3 (⟨rfl, hJ3, hk3⟩ | ⟨rfl, hJx3⟩)
            · gi_wp2
              go_roundw
              case rel => exact ⟨q + 1, by omega, by go_num, by rw [upTo_add _ _ _ _ HN.out]; exact hJ3, ktrans hk1 hk3⟩
              case measure => simp [intOf]; omega
            · gi_wp2
              rw [Exit.noGoto_normal]
              go_end0
              exact ⟨⟨_, rfl⟩, .inr ⟨_, upTo_gd _ _ _ _ _ hlt hlq HN.out, hJx3⟩⟩
        · have hlq2 : ¬ (q : Int) < (ds.length : Int) := by omega
          obtain rfl : q = ds.length := by omega
          gi_wp2
          go_roundw
          case rel => exact ⟨k + 1, by omega, by go_num, by rw [upTo_turn]; exact hJq, ktrans HK5.out hkq⟩
          case measure => simp [intOf]; omega
    · have hlt2 : ¬ (k : Int) < (ds.length : Int) := by omega
      obtain rfl : k = ds.length := by omega
      gi_wp2
      go_end0
      exact ⟨⟨_, rfl⟩, .inl ⟨_, rfl, hJs⟩⟩

end Go.Proofs.YthjimbnpkkpbkaaGreatDoor.Ce

/- A range over a function whose rounds all go on, where the iterator may range over another one itself and hand its caller's rounds on: what lies beyond the iterator's call is kept by the rounds. -/
namespace Go.Proofs.YthjimbnpkkpbkaaGreatDoor.Ce
open Go.RowKit
set_option linter.unusedVariables false

/-- An iterator that comes to its end if its rounds go on; whatever is no cells and was laid since it was called, each round leaves as it lay. -/
def Goes {α : Type} (F : Fence) (n : Nat) (P : Program) (gf : Nat) (lb : Array Value) (encs : α → Array Value) (Kp : World → World → Prop) (S : List α → Prop) (N : Nat) (w0 : World) : Prop :=
  ∀ (l : Nat) (J : List α → World → Prop) (W : World), Below w0.heap.size w0 W → OwnFrom W.heap.size J →
    (∀ pre x U, J pre U → pre.length < N → YieldAt F (n - 1) P l (encs x) U fun e U' => e = .returned (.bool true) ∧ J (pre ++ [x]) U' ∧ Kp U U' ∧ KeepsFrom W.heap.size U U') →
    J [] W → CallsIn F n P gf (#[.func (.yield l) #[] #[]] ++ lb) W fun e W' => (∃ v, e = .returned v) ∧ ∃ ys, S ys ∧ J ys W'
/-- How a round's body is left: off its end alone. -/
def goesPost {α : Type} (B : Nat) (Kp : World → World → Prop) (I : List α → World → Prop) (xs : List α) (U : World) : Exit → Act → World → Prop
  | .normal, _, U' => KeepsFrom B U U' ∧ Kp U U' ∧ I xs U'
  | _, _, _ => False
theorem keepsFrom_mono {B B' : Nat} {U U' : World} (h : KeepsFrom B U U') (hb : B ≤ B') : KeepsFrom B' U U' := ⟨h.size, fun k o hk => h.same k o (Nat.le_trans hb hk)⟩
theorem keepsFrom_put (B : Nat) (U : World) (l : Nat) (o : Obj) (hl : l < B) : KeepsFrom B U (U.putObj l o) :=
  KeepsFrom.of_grownBy (grownBy_putObj' U l o) (fun j e => by injection e with e; omega)
theorem roundIn_wide {m m' l l' : Nat} {P : Program} {f : FuncId} {tmps : Array Value} {assign body : Code} {w : World} {R : Ending → World → Prop} (h : RoundIn Fence.wide m P l f tmps assign body w R) : RoundIn (Fence.wide.inRound l') m' P l f tmps assign body w R :=
  ⟨trivial, fun c cs _ => h.2 c cs (fun d hd => by cases hd)⟩

theorem range_goes {F : Fence} {n : Nat} {P : Program} {α : Type} {g : Operand} {ps : Array Tmp} {assign body : Code} {Q : Exit → Act → World → Prop} {a : Act} {w : World}
    (hro : F.round = none) (h1 : 1 ≤ n) {gf : Nat} {lb : Array Value} (hg : a.eval g = .func (.func gf) #[] lb) (hFg : F.fn gf) (eg : ∀ args w, (callFunc gf args).run P w = .ok (.enter gf args) w)
    {encs : α → Array Value} {Kp : World → World → Prop} {S : List α → Prop} {N : Nat} {w0 : World} (hseq : Goes F (n - 1) P gf lb encs Kp S N w0)
    (hKt : ∀ {A B C : World}, Kp A B → Kp B C → Kp A C) (hKb : ∀ (U : World) (o o' : Obj), U.heap[w.heap.size + 1]? = some o → o.isCells = false → Kp U (U.putObj (w.heap.size + 1) o'))
    (hb0 : Below w0.heap.size w0 w) (hps : ∀ x, (encs x).size = ps.size)
    (I : List α → World → Prop) (hI : OwnFrom w.heap.size I) (h0 : I [] w) (a1 : α → Act)
    (hassign : ∀ (l : Nat) (x : α) (W : World) (K : Act → World → Prop), K (a1 x) W →
      assign.wpIn (F.inRound l) (n - 1 - 1) P (Exit.then K (fun _ _ _ => False)) { tmps := (ps.zip (encs x)).foldl (fun t (p, v) => t.setIfInBounds p v) a.tmps, defers := [] } W)
    (hbody : ∀ (l : Nat) (pre : List α) (x : α) (W : World), I pre W → pre.length < N → body.wpIn (F.inRound l) (n - 1 - 1) P (goesPost w.heap.size Kp I (pre ++ [x]) W) (a1 x) W)
    (hdone : ∀ (ys : List α) (W : World), S ys → I ys W → W.heap[w.heap.size]? = some (.deferred (some [])) → Q .normal { a with defers := { target := .collected w.heap.size, args := #[] } :: a.defers } W) :
    (Code.rangeFunc g ps assign body).wpIn F n P Q a w := by
  refine wpIn_rangeFunc fun fn hfn => ?_
  rw [hro]
  have hent := run_enterLoop_outer (P := P) (w := w) fn a.tmps ps assign body
  obtain ⟨R, hR⟩ : ∃ R : LoopState → Loop, R = fun st => { state := st, pending := none, fn, tmps := a.tmps, params := ps, assign, body, defers := w.heap.size } := ⟨_, rfl⟩
  have hR0 : (Obj.loop { state := .ready, pending := none, fn, tmps := a.tmps, params := ps, assign, body, defers := w.heap.size }) = .loop (R .ready) := by rw [hR]
  rw [hR0] at hent
  obtain ⟨X, hX⟩ : ∃ X, X = (w.alloc (.deferred (some []))).alloc (.loop (R .ready)) := ⟨_, rfl⟩
  rw [← hX] at hent
  have hXs : X.heap.size = w.heap.size + 2 := by rw [hX]; simp
  have hXl : X.heap[w.heap.size + 1]? = some (.loop (R .ready)) := by
    have h := World.alloc_heap_new (w.alloc (.deferred (some []))) (.loop (R .ready))
    rw [World.size_alloc, ← hX] at h
    exact h
  have hXd : X.heap[w.heap.size]? = some (.deferred (some [])) := by
    rw [hX]
    exact (Below.heap_alloc _ _ _ (by simp)).trans (World.alloc_heap_new w _)
  have hXi : I [] X := by rw [hX]; exact hI.alloc _ (hI.alloc _ h0)
  have hXb : Below w0.heap.size w0 X := by
    rw [hX]
    exact (hb0.alloc hb0.size _).alloc (by simp; exact Nat.le_succ_of_le hb0.size) _
  refine ⟨w.heap.size + 1, [{ target := .collected w.heap.size, args := #[] }], X, { target := .fn (.func gf) lb, args := #[.func (.yield (w.heap.size + 1)) #[] #[]] }, X, gf, #[.func (.yield (w.heap.size + 1)) #[] #[]] ++ lb, X, hent, ?_, ?_, ?_, fun _ => h1, ?_⟩
  · simp only [resolve, hg]
    simp [go_sem]
  · intro f' hf'
    simp [Target.leads] at hf'
    subst hf'
    exact hFg
  · simp [invoke, go_sem, eg]
  clear hent hX hR0
  refine (hseq (w.heap.size + 1) (fun pre U => I pre U ∧ U.heap[w.heap.size + 1]? = some (.loop (R .ready)) ∧ U.heap[w.heap.size]? = some (.deferred (some []))) X hXb ?_ ?_ ⟨hXi, hXl, hXd⟩).mono ?_
  · intro s A B row hs hgr hrow
    have hne : ∀ k, k < X.heap.size → some k ≠ row := fun k hk e => by have := (hrow k e.symm).1; omega
    have hlt := fun (k : Nat) (o : Obj) (e : A.heap[k]? = some o) => (Array.getElem?_eq_some_iff.1 e).1
    exact ⟨hI s A B row hs.1 hgr (fun r e => ⟨by have := (hrow r e).1; omega, (hrow r e).2⟩), (hgr.block _ (hlt _ _ hs.2.1) (hne _ (by omega))).trans hs.2.1, (hgr.block _ (hlt _ _ hs.2.2) (hne _ (by omega))).trans hs.2.2⟩
  · rintro pre x U ⟨hi, hl, hd⟩ hlen
    have hUl : w.heap.size + 1 < U.heap.size := (Array.getElem?_eq_some_iff.1 hl).1
    have hy := run_yield (P := P) (args := encs x) hl (by rw [hR]; exact hps x)
    have hbg := run_beginRound (P := P) hl (by rw [hR])
    rw [show ({ R .ready with state := .busy } : Loop) = R .busy by rw [hR]] at hbg
    rw [hR] at hy
    refine ⟨fn, _, assign, body, hy, roundIn_of_wpIn hfn (hassign _ x U _ ⟨_, hbg, ?_⟩)⟩
    have hbl : (U.putObj (w.heap.size + 1) (.loop (R .busy))).heap[w.heap.size + 1]? = some (.loop (R .busy)) := World.putObj_heap_same hUl
    have hbd : (U.putObj (w.heap.size + 1) (.loop (R .busy))).heap[w.heap.size]? = some (.deferred (some [])) := (World.putObj_heap_other (by omega)).trans hd
    refine wpIn_mono (hbody _ pre x _ (hI.putObj _ hi (by omega) hl rfl) hlen) ?_
    intro e a3 V hp
    cases e with
    | normal =>
      obtain ⟨hk, hkp, hi3⟩ := hp
      have hvl := hk.same _ _ (by omega) hbl rfl
      have hvd := hk.same _ _ (Nat.le_refl _) hbd rfl
      have hend := run_endRound (P := P) none hvl
      rw [show ({ R .busy with state := if (none : Option Code).isNone then .ready else .done, pending := none } : Loop) = R .ready by rw [hR]; rfl] at hend
      have hVl : w.heap.size + 1 < V.heap.size := (Array.getElem?_eq_some_iff.1 hvl).1
      refine ⟨_, _, hend, rfl, ⟨hI.putObj _ hi3 (by omega) hvl rfl, World.putObj_heap_same hVl, (World.putObj_heap_other (by omega)).trans hvd⟩, hKt (hKt (hKb U _ _ hl rfl) hkp) (hKb V _ _ hvl rfl), ?_⟩
      exact ((keepsFrom_put X.heap.size U _ _ (by omega)).trans (keepsFrom_mono hk (by omega))).trans (keepsFrom_put X.heap.size V _ _ (by omega))
    | ret => exact (hp : False).elim
    | exit id => exact (hp : False).elim
    | goto t => exact (hp : False).elim
    | panic ch => exact (hp : False).elim
    | outgrown => exact (hp : False).elim
  · rintro e V ⟨⟨v, rfl⟩, ys, hS, hi, hl, hd⟩
    have hVl : w.heap.size + 1 < V.heap.size := (Array.getElem?_eq_some_iff.1 hl).1
    have hend := run_endLoop (P := P) hl (by rw [hR]; simp)
    exact ⟨(R .ready).pending, _, hend, by rw [hR]; exact hdone ys _ hS (hI.putObj _ hi (by omega) hl rfl) ((World.putObj_heap_other (by omega)).trans hd)⟩

end Go.Proofs.YthjimbnpkkpbkaaGreatDoor.Ce

/- Which places EdgesOf tells: the program's answer. -/
namespace Go.Proofs.YthjimbnpkkpbkaaGreatDoor.Ce
open Go.RowKit Go.Shelf Tr Co Rea
set_option linter.unusedVariables false
attribute [local go_sem] Oper.semAt_some

/-- What the rounds leave: the blocks that lay there but one, and all boxes but those of numbers and of rows of them. -/
structure Kd (B n1 : Nat) (W W' : World) : Prop where
  size : W.heap.size ≤ W'.heap.size
  low : ∀ b, b < n1 → b < W.heap.size → b ≠ B → W'.heap[b]? = W.heap[b]?
  ty : ∀ (b : Nat) (vs : Array Value) (T : TypeId), W.heap[b]? = some (.cells vs T) → T ≠ 3 → T ≠ 24 → W'.heap[b]? = some (.cells vs T)
theorem Kd.refl (B n1 : Nat) (W : World) : Kd B n1 W W := ⟨Nat.le_refl _, fun _ _ _ _ => rfl, fun _ _ _ h _ _ => h⟩
theorem Kd.trans {B n1 : Nat} {X Y Z : World} (h : Kd B n1 X Y) (k : Kd B n1 Y Z) : Kd B n1 X Z :=
  ⟨Nat.le_trans h.size k.size, fun b h1 h2 h3 => (k.low b h1 (Nat.lt_of_lt_of_le h2 h.size) h3).trans (h.low b h1 h2 h3), fun b vs T e h1 h2 => k.ty b vs T (h.ty b vs T e h1 h2) h1 h2⟩
theorem Kd.below {B n1 : Nat} {W W' : World} (h : Below W.heap.size W W') : Kd B n1 W W' :=
  ⟨h.size, fun b _ hb _ => h.block b hb, fun b vs T e _ _ => (h.block b (Array.getElem?_eq_some_iff.1 e).1).trans e⟩
theorem Kd.grown {B n1 : Nat} {U U' : World} {row : Option Nat} (hg : U.grownBy U' row) (hr : ∀ r, row = some r → n1 ≤ r ∧ ∃ o : Obj, U.heap[r]? = some o ∧ o.isCells = false) : Kd B n1 U U' :=
  ⟨hg.size, fun b hb hh _ => hg.block b hh (fun e => by have := (hr b e.symm).1; omega), fun b vs T e _ _ => (hg.block b (Array.getElem?_eq_some_iff.1 e).1 (fun e' => by
    obtain ⟨_, o, ho, hc⟩ := hr b e'.symm
    rw [e] at ho
    cases ho
    cases hc)).trans e⟩
theorem kd_put {B n1 : Nat} (U : World) (l : Nat) (o o' : Obj) (hl : n1 ≤ l) (h : U.heap[l]? = some o) (hc : o.isCells = false) : Kd B n1 U (U.putObj l o') :=
  Kd.grown (grownBy_putObj' U l o') (fun r e => by injection e with e; subst e; exact ⟨hl, o, h, hc⟩)
theorem kd_cell {B n1 b : Nat} {X U U' : World} {v : Value} {T : TypeId} (hX : X.heap[b]? = some (.cells #[v] T)) (hU : Below X.heap.size X U) (hK : Kd B n1 U U') (h1 : T ≠ 3) (h2 : T ≠ 24) : U'.cell? ⟨b, 0, none⟩ = some v := by
  have e := hK.ty b _ _ ((hU.block b (Array.getElem?_eq_some_iff.1 hX).1).trans hX) h1 h2
  simp [World.cell?, e]
theorem ownI_low {w : World} {base base' : Nat} {v : Value} {l : List Int} (h : OwnI w base v l) (hb : base' ≤ base) : OwnI w base' v l := by
  obtain ⟨h1, h2⟩ := h
  refine ⟨h1, ?_⟩
  rcases h2 with h2 | ⟨g, cap, cur, hv, hg, r⟩
  · exact .inl h2
  · exact .inr ⟨g, cap, cur, hv, Nat.le_trans hb hg, r⟩
theorem ownI_two {w : World} {base : Nat} {v : Value} {l : List Int} {x y : Int} (h : OwnI w base v (l ++ [x, y])) : ∃ g cap, v = .slice (some ⟨g, 0, none⟩) (l.length + 1 + 1) cap := by
  unfold OwnI at h
  rw [List.length_append] at h
  exact ownsRow_succ (k := l.length + 1) h
theorem Kd.app {B n1 : Nat} {W w1 : World} {v v' : Value} {l : List Int} {tmp : Obj} (hv : Go.Boxed W B 24 v) (hv1 : Go.Boxed w1 B 24 v) (hrow : OwnI W n1 v l) (hn : n1 ≤ W.heap.size) (hgrow : (W.alloc tmp).grownBy w1 v.ownBlock) : Kd B n1 W (w1.setCell ⟨B, 0, none⟩ v') := by
  have hs := hgrow.size
  rw [World.size_alloc] at hs
  have hset := grownBy_setCell' w1 B v'
  refine ⟨by have := hset.size; omega, fun b hb hbw hne => ?_, fun b vs T e h1 h2 => ?_⟩
  · have e1 := hset.block b (by omega) (fun e => by injection e with e; exact hne e)
    have e2 := hgrow.block b (by rw [World.size_alloc]; omega) (fun e => by
      have := (World.ownsRow.lt hrow b e.symm).1
      omega)
    exact e1.trans (e2.trans (Below.heap_alloc _ _ _ (by omega)))
  · have hbl := (Array.getElem?_eq_some_iff.1 e).1
    have hne : b ≠ B := fun h => by
      subst h
      have h5 := (show W.heap[b]? = _ from hv).symm.trans e
      simp at h5
      exact h2 h5.2.symm
    have e1 := hset.block b (by omega) (fun e => by injection e with e; exact hne e)
    have e2 := hgrow.block b (by rw [World.size_alloc]; omega) (fun e' => by
      rcases hrow.2 with ⟨rfl, _⟩ | ⟨g, cap, cur, rfl, _, hgb, _⟩
      · simp [Value.ownBlock] at e'
      · obtain rfl : b = g := by simpa [Value.ownBlock] using e'
        have h5 := hgb.symm.trans e
        simp at h5
        exact h1 h5.2.symm)
    exact e1.trans (e2.trans ((Below.heap_alloc _ _ _ hbl).trans e))

/-- The world behind the pairs' maker. -/
def mkE (w : World) (v1 v2 : Value) : World := ((w.alloc (.cells #[v1] 27)).alloc (.cells #[v2] 27)).alloc (.cells #[.func (.func 33) #[] #[]] 40)
set_option maxRecDepth 4000 in
set_option maxHeartbeats 1000000 in
theorem pairsD_any (p1 p2 : Option Addr) (n1 n2 c1 c2 : Nat) (w : World) :
    Calls Tryz.prog 32 #[.slice p1 n1 c1, .slice p2 n2 c2, .func (.func 33) #[] #[]] w fun e w' => e = .returned (.func (.func 47) #[] #[.pointer (some ⟨w.heap.size, 0, none⟩), .pointer (some ⟨w.heap.size + 1, 0, none⟩), .pointer (some ⟨w.heap.size + 1 + 1, 0, none⟩)]) ∧ w' = mkE w (.slice p1 n1 c1) (.slice p2 n2 c2) := by
  go_enter Tryz.func32, Tryz.ntmps32
  go_wp2_with fail
  go_ret
  exact ⟨rfl, rfl⟩
theorem mkE_facts (w : World) (v1 v2 : Value) : Below w.heap.size w (mkE w v1 v2) ∧ (mkE w v1 v2).heap.size = w.heap.size + 3 ∧ (mkE w v1 v2).heap[w.heap.size]? = some (.cells #[v1] 27) ∧ (mkE w v1 v2).heap[w.heap.size + 1]? = some (.cells #[v2] 27) ∧ (mkE w v1 v2).heap[w.heap.size + 1 + 1]? = some (.cells #[.func (.func 33) #[] #[]] 40) := by
  unfold mkE
  refine ⟨(((Below.refl _ _).alloc (Nat.le_refl _) _).alloc (by simp) _).alloc (by simp; omega) _, by simp, ?_, ?_, ?_⟩
  · exact (Below.heap_alloc _ _ _ (by simp; omega)).trans ((Below.heap_alloc _ _ _ (by simp)).trans (heap_alloc_new _ _))
  · have h := heap_alloc_new (w.alloc (.cells #[v1] 27)) (.cells #[v2] 27)
    rw [heap_size_alloc] at h
    exact (Below.heap_alloc _ _ _ (by simp)).trans h
  · have h := heap_alloc_new ((w.alloc (.cells #[v1] 27)).alloc (.cells #[v2] 27)) (.cells #[.func (.func 33) #[] #[]] 40)
    rw [heap_size_alloc, heap_size_alloc] at h
    exact h
set_option maxRecDepth 4000 in
set_option maxHeartbeats 1000000 in
theorem edges_any (p : Option Addr) (n c : Nat) (w : World) :
    Calls Tryz.prog 18 #[.slice p n c] w fun e w' => e = .returned (.func (.func 31) #[] #[.pointer (some ⟨w.heap.size, 0, none⟩)]) ∧ w' = w.alloc (.cells #[.slice p n c] 27) := by
  go_enter Tryz.func18, Tryz.ntmps18
  go_wp2_with fail
  go_ret
  exact ⟨rfl, rfl⟩
def neP (x : Nat × Nat) : Bool := x.1 != x.2
theorem neP_skip (pre : List (Nat × Nat)) (x : Nat × Nat) (h : x.1 = x.2) : (pre ++ [x]).filter neP = pre.filter neP := by
  rw [List.filter_append]
  have : [x].filter neP = [] := by simp [neP, h]
  rw [this, List.append_nil]
theorem neP_add (pre : List (Nat × Nat)) (x : Nat × Nat) (h : ¬ x.1 = x.2) : (pre ++ [x]).filter neP = pre.filter neP ++ [x] := by
  rw [List.filter_append]
  have : [x].filter neP = [x] := by simp [neP, h]
  rw [this]
set_option maxRecDepth 100000 in
set_option maxHeartbeats 4000000 in
theorem edges_goes (w W0 : World) (B b0 g c b1 : Nat) (ds : List Dn) (h1 : MadeDn w b1 g ds) (hlen : ds.length ≤ 1048576) (hdn : ∀ v ∈ ds, dnB v = true) (hB0 : Below w.heap.size w W0) (hBw : w.heap.size ≤ B) (hbx : W0.heap[b0]? = some (.cells #[.slice (some ⟨g, 0, none⟩) ds.length c] 27)) :
    Goes Fence.wide 3 Tryz.prog 31 #[.pointer (some ⟨b0, 0, none⟩)] (fun x : Nat × Nat => #[.int .i64 (x.1 : Int), .int .i64 (x.2 : Int)]) (Kd B W0.heap.size) (fun ys => ys = (upTo ds.length (edgeP ds) ds.length 0).filter neP) (ds.length * ds.length) W0 := by
  intro l J W hW hJ hY h0
  have HDN : Hid (∀ x ∈ ds, dnB x = true) := hdn
  have H1 : Hid (MadeDn _ _ _ _) := h1
  have HKC : Hid (∀ U U' : World, Below W0.heap.size W0 U → Kd B W0.heap.size U U' → Kc w U') := fun U U' hU hK => ⟨by have := hK.size; have := hU.size; have := hB0.size; omega, fun b o v e => by
    have hbl := cell_lt e
    exact ((World.cell?_of_block (a := ⟨b, o, none⟩) (hK.low b (by have := hB0.size; omega) (by have := hB0.size; have := hU.size; omega) (by omega))).trans ((hB0.trans (hU.mono hB0.size)).cell hbl)).trans e⟩
  have hb0c : W.cell? ⟨b0, 0, none⟩ = some (.slice (some ⟨g, 0, none⟩) ds.length c) := kd_cell hbx hW (Kd.refl B W0.heap.size W) (by decide) (by decide)
  have hb0l := cell_lt hb0c
  have HY : Hid _ := hY
  have HJ : Hid (OwnFrom W.heap.size J) := hJ
  have hWs := hW.size
  clear hdn h1 hY hJ hbx hB0
  refine callsIn_of_wp_marks Tryz.func31 rfl trivial ?_ rfl
  simp only [Tryz.ntmps31, List.size_toArray, List.length_cons, List.length_nil, Nat.reduceAdd, Nat.reduceSub, Array.replicate_succ, Array.replicate_zero, List.push_toArray, List.append_toArray, List.nil_append, List.cons_append]
  gi_wp2
  refine ⟨trivial, (callsIn_wide.2 (pairsD_any _ _ _ _ _ _ _)).mono ?_⟩
  rintro e w' ⟨rfl, rfl⟩
  obtain ⟨m0, m1, m2, m3, m4⟩ := mkE_facts (W.alloc (.cells #[.func (.yield l) #[] #[]] 59)) (.slice (some ⟨g, 0, none⟩) ds.length c) (.slice (some ⟨g, 0, none⟩) ds.length c)
  have hA : Below W.heap.size W (W.alloc (.cells #[.func (.yield l) #[] #[]] 59)) := (Below.refl _ _).alloc (Nat.le_refl _) _
  have m5 : (mkE (W.alloc (.cells #[.func (.yield l) #[] #[]] 59)) (.slice (some ⟨g, 0, none⟩) ds.length c) (.slice (some ⟨g, 0, none⟩) ds.length c)).heap[W.heap.size]? = some (.cells #[.func (.yield l) #[] #[]] 59) := (m0.block W.heap.size (by simp)).trans (heap_alloc_new _ _)
  have hB : Below W.heap.size W (mkE (W.alloc (.cells #[.func (.yield l) #[] #[]] 59)) (.slice (some ⟨g, 0, none⟩) ds.length c) (.slice (some ⟨g, 0, none⟩) ds.length c)) := hA.trans (m0.mono hA.size)
  generalize mkE (W.alloc (.cells #[.func (.yield l) #[] #[]] 59)) (.slice (some ⟨g, 0, none⟩) ds.length c) (.slice (some ⟨g, 0, none⟩) ds.length c) = X at m0 m1 m2 m3 m4 m5 hB ⊢
  simp only [World.size_alloc] at m1 m2 m3 m4
  have hJX : J [] X := HJ.out [] W X none h0 (grown_of_below hB) (fun r e => by cases e)
  have hWX := hB.size
  have hWB : Below W0.heap.size W0 X := hW.trans (hB.mono hWs)
  have hNX : W0.heap.size ≤ X.heap.size := hWB.size
  have HWB : Hid (Below W0.heap.size W0 X) := hWB
  have M2 : Hid (_ = _) := m2
  have M3 : Hid (_ = _) := m3
  have M4 : Hid (_ = _) := m4
  have M5 : Hid (_ = _) := m5
  clear m0 hA h0 hb0c m2 m3 m4 m5 hWB
  gi_wp2
  refine wpIn_rangeFunc_ownG rfl (by decide) (gf := 47) (lb := #[.pointer (some ⟨W.heap.size + 1, 0, none⟩), .pointer (some ⟨W.heap.size + 1 + 1, 0, none⟩), .pointer (some ⟨W.heap.size + 1 + 1 + 1, 0, none⟩)]) rfl trivial (enters_of Tryz.func47 (by kernel_rfl) rfl)
    (α := Nat × Nat) (encs := fun x => #[.int .i64 (x.1 : Int), .int .i64 (x.2 : Int)]) (Kp := Kd B W0.heap.size) (S := fun ys => ys = upTo ds.length (edgeP ds) ds.length 0) (Sp := fun pre => ∀ x ∈ pre, Gd ds.length ds.length (edgeP ds) x) (N := ds.length * ds.length) (w0 := X)
    (fun l2 J2 Jx2 U hU hJ2 _ hY2 h02 => pairsD_in (Kd B W0.heap.size) (Kd.refl _ _) Kd.trans (fun A A' hA => Kd.below hA) (fun A A' b vs e hK => hK.ty b vs _ e (by decide) (by decide)) 2 (by decide) l2 (W.heap.size + 1) (W.heap.size + 1 + 1) (W.heap.size + 1 + 1 + 1) g b1 c c U.heap.size ds (edgeP ds) (fun k hk q hq => edgeP_at ds k hk q hq) hlen HDN.out J2 Jx2 hJ2 hY2 U
      (fun U' hK => ⟨kd_cell M2.out hU hK (by decide) (by decide), kd_cell M3.out hU hK (by decide) (by decide), kd_cell M4.out hU hK (by decide) (by decide), madeDn_kc H1.out (HKC.out U U' (HWB.out.trans (hU.mono hNX)) hK)⟩)
      (fun U1 U2 k hk gr hK1 hK2 e hm => by
        obtain ⟨gr0, gc0, ⟨_, _, e2, _⟩, u0, _⟩ := H1.out.cells k hk
        have e3 := (HKC.out U U1 (HWB.out.trans (hU.mono hNX)) hK1).cell _ _ _ e2
        rw [e] at e3
        injection e3 with e3
        injection e3 with e3
        injection e3 with e3
        injection e3 with e3
        subst e3
        exact madeRd_kc u0 (HKC.out U U2 (HWB.out.trans (hU.mono hNX)) hK2)) h02)
    Kd.trans (fun U l2 o o' hl ho hc _ => kd_put U l2 o o' (by omega) ho hc) (Below.refl _ _) (fun _ => rfl)
    (fun pre U => J (pre.filter neP) U ∧ Kd B W0.heap.size X U)
    (fun _ _ _ => False)
    (fun s A A' row hs hg hr => ⟨HJ.out _ A A' row hs.1 hg (fun r e => ⟨by have := (hr r e).1; omega, (hr r e).2⟩), hs.2.trans (Kd.grown hg (fun r e => ⟨by have := (hr r e).1; omega, (hr r e).2⟩))⟩)
    (fun _ _ _ _ _ hs _ _ => hs)
    ⟨hJX, Kd.refl _ _ _⟩
    (fun x => { tmps := #[.func (.yield l) #[] #[], .pointer (some ⟨b0, 0, none⟩), .pointer (some ⟨W.heap.size, 0, none⟩), .int .i64 (x.1 : Int), .int .i64 (x.2 : Int), .slice (some ⟨g, 0, none⟩) ds.length c, .slice (some ⟨g, 0, none⟩) ds.length c, .func (.func 47) #[] #[.pointer (some ⟨W.heap.size + 1, 0, none⟩), .pointer (some ⟨W.heap.size + 1 + 1, 0, none⟩), .pointer (some ⟨W.heap.size + 1 + 1 + 1, 0, none⟩)], .int .i64 (x.1 : Int), .int .i64 (x.2 : Int), undef, undef, undef, undef, undef, undef, undef, undef, undef, undef], defers := [] }) ?assign ?body ?done ?stop
  case assign =>
    intro l2 x U K hK
    gi_wp2
    exact hK
  case body =>
    rintro l2 pre x U ⟨hj, hk⟩ hpn
    have hc : U.cell? ⟨W.heap.size, 0, none⟩ = some (.func (.yield l) #[] #[]) := kd_cell M5.out (Below.refl _ X) hk (by decide) (by decide)
    have hcl := cell_lt hc
    by_cases hx : x.1 = x.2
    · have hx2 : ((x.1 : Int) != (x.2 : Int)) = false := by simp [hx]
      gi_wp2
      refine ⟨fun _ h => (by cases h), ?_⟩
      gi_wp2
      exact ⟨KeepsFrom.refl _ _, Kd.refl _ _ _, by rw [neP_skip pre x hx]; exact hj, hk⟩
    · have hx2 : ((x.1 : Int) != (x.2 : Int)) = true := by simp; omega
      obtain ⟨fn, tmps, assign, body, hy, hR⟩ := HY.out (pre.filter neP) x U hj (Nat.lt_of_le_of_lt (List.length_filter_le _ _) hpn)
      gi_wp2
      refine (roundIn_wide hR).mono ?_
      rintro e U3 ⟨rfl, hj3, hk3, hf3⟩
      gi_wp2
      exact ⟨keepsFrom_mono hf3 hWX, hk3, by rw [neP_add pre x hx]; exact hj3, hk.trans hk3⟩
  case done =>
    rintro D ys U hD rfl ⟨hj, hk⟩ hKD
    gi_wp2
    refine ⟨by simp, .inl ⟨_, _, rfl, run_takeDeferred hKD, ?_⟩⟩
    refine ⟨.tuple #[], by simp [results, Tryz.f31, go_sem], ⟨⟨_, rfl⟩, _, rfl, HJ.out.putObj _ hj (by omega) hKD rfl⟩⟩
  case stop =>
    rintro D c pre U _ _ h _
    exact h.elim

set_option maxRecDepth 100000 in
set_option maxHeartbeats 4000000 in
theorem implEdges_any (g c b1 : Nat) (ds : List Dn) (w : World) (h1 : MadeDn w b1 g ds) (hlen : ds.length ≤ 1048576) (hs : ∀ v ∈ ds, szDn v) :
    Calls Tryz.prog 7 #[.slice (some ⟨g, 0, none⟩) ds.length c] w fun e w' => EdR ds w e w' := by
  have HC0 : Hid (Calls _ _ _ _ _) := doneListOK_any g c b1 ds w h1 hlen hs
  clear hs
  unfold EdR
  by_cases t0 : 4096 < ds.length
  · have t1 : (4096 : Int) < (ds.length : Int) := by omega
    have e1 : edgC ds = 2 := by unfold edgC; rw [if_pos t0]
    have e2 : edgL ds = [] := by
      unfold edgL
      rw [if_neg]
      intro h
      have := (dones_parts ds h).1
      omega
    rw [e1, e2]
    clear HC0 h1
    go_enter Tryz.func7, Tryz.ntmps7
    go_wp2_with fail
    go_ret2
    exact ⟨⟨_, rfl, OwnI.nil _ _⟩, Below.refl _ _⟩
  have t1 : ¬ (4096 : Int) < (ds.length : Int) := by omega
  cases hD : donesB ds
  · have e1 : edgC ds = 1 := by unfold edgC; rw [if_neg t0, hD]; rfl
    have e2 : edgL ds = [] := by unfold edgL; rw [hD]; rfl
    rw [e1, e2]
    rw [hD] at HC0
    clear hD e1 e2 h1
    go_enter Tryz.func7, Tryz.ntmps7
    go_wp2_with fail
    refine HC0.out.mono ?_
    rintro e w1 ⟨rfl, hb⟩
    go_wp2_with fail
    go_ret2
    exact ⟨⟨_, rfl, OwnI.nil _ _⟩, hb⟩
  have e1 : edgC ds = 0 := by unfold edgC; rw [if_neg t0, hD]; rfl
  have e2 : edgL ds = intsP ((upTo ds.length (edgeP ds) ds.length 0).filter neP) := by unfold edgL; rw [hD, if_pos rfl, ← upTo_other]; rfl
  rw [e1, e2]
  obtain ⟨hl30, hdn⟩ := dones_parts ds hD
  have HDN : Hid (∀ x ∈ ds, dnB x = true) := hdn
  have H1 : Hid (MadeDn _ _ _ _) := h1
  rw [hD] at HC0
  clear hD e1 e2 hdn h1
  refine (callsIn_wide (n := 4)).1 ?_
  refine callsIn_of_wp_marks Tryz.func7 rfl trivial ?_ rfl
  simp only [Tryz.ntmps7, List.size_toArray, List.length_cons, List.length_nil, Nat.reduceAdd, Nat.reduceSub, Array.replicate_succ, Array.replicate_zero, List.push_toArray, List.append_toArray, List.nil_append, List.cons_append]
  gi_wp2
  refine ⟨trivial, (callsIn_wide.2 HC0.out).mono ?_⟩
  rintro e wa ⟨rfl, hba⟩
  gi_wp2
  refine ⟨trivial, (callsIn_wide.2 (edges_any _ _ _ _)).mono ?_⟩
  rintro e w' ⟨rfl, rfl⟩
  have bO := Go.Boxed.new wa 24 (.slice none 0 0)
  have hlow : Below wa.heap.size wa (wa.alloc (.cells #[.slice none 0 0] 24)) := (Below.refl _ wa).alloc (Nat.le_refl _) _
  have m0 : Below (wa.heap.size + 1) (wa.alloc (.cells #[.slice none 0 0] 24)) ((wa.alloc (.cells #[.slice none 0 0] 24)).alloc (.cells #[.slice (some ⟨g, 0, none⟩) ds.length c] 27)) := (Below.refl _ _).alloc (by simp) _
  have hbx : ((wa.alloc (.cells #[.slice none 0 0] 24)).alloc (.cells #[.slice (some ⟨g, 0, none⟩) ds.length c] 27)).heap[wa.heap.size + 1]? = some (.cells #[.slice (some ⟨g, 0, none⟩) ds.length c] 27) := by
    have h := heap_alloc_new (wa.alloc (.cells #[.slice none 0 0] 24)) (.cells #[.slice (some ⟨g, 0, none⟩) ds.length c] 27)
    rw [heap_size_alloc] at h
    exact h
  have hsz : ((wa.alloc (.cells #[.slice none 0 0] 24)).alloc (.cells #[.slice (some ⟨g, 0, none⟩) ds.length c] 27)).heap.size = wa.heap.size + 2 := by simp
  generalize (wa.alloc (.cells #[.slice none 0 0] 24)).alloc (.cells #[.slice (some ⟨g, 0, none⟩) ds.length c] 27) = W0 at m0 hbx hsz ⊢
  have hBa : Below wa.heap.size wa W0 := hlow.trans (m0.mono (by omega))
  have hB0 : Below w.heap.size w W0 := hba.trans (hBa.mono hba.size)
  have k0 : Go.Boxed W0 wa.heap.size 24 (.slice none 0 0) := (m0.block wa.heap.size (by omega)).trans bO
  have hza := hba.size
  have HG : Hid (Goes _ _ _ _ _ _ _ _ _ _) := edges_goes w W0 wa.heap.size (wa.heap.size + 1) g c b1 ds H1.out hlen HDN.out hB0 hza hbx
  clear m0 bO hlow hBa hbx
  gi_wp2
  refine range_goes rfl (by decide) (gf := 31) (lb := #[.pointer (some ⟨wa.heap.size + 1, 0, none⟩)]) rfl trivial (enters_of Tryz.func31 (by kernel_rfl) rfl)
    (α := Nat × Nat) (encs := fun x => #[.int .i64 (x.1 : Int), .int .i64 (x.2 : Int)]) (Kp := Kd wa.heap.size W0.heap.size) (S := fun ys => ys = (upTo ds.length (edgeP ds) ds.length 0).filter neP) (N := ds.length * ds.length) (w0 := W0)
    HG.out Kd.trans (fun U o o' h hc => kd_put U _ o o' (by omega) h hc) (Below.refl _ _) (fun _ => rfl)
    (fun pre W => (∃ v, Go.Boxed W wa.heap.size 24 v ∧ W.ownsRow W0.heap.size 3 1 v (intsP pre).length (intsV (intsP pre)) ∧ True) ∧ Below w.heap.size w W ∧ W0.heap.size ≤ W.heap.size)
    (OwnFrom.and (Own.from (holdsRow_own W0.heap.size wa.heap.size 24 3 1 (fun pre : List (Nat × Nat) => (intsP pre).length) (fun pre : List (Nat × Nat) => intsV (intsP pre)) (fun _ _ => True)) _) (OwnFrom.and (ownFrom_below (Nat.le_refl _) (by omega)) (fun s A B row hs hg hr => Nat.le_trans hs hg.size)))
    ⟨⟨_, k0, World.ownsRow_nil _ _ _ _, trivial⟩, hB0, Nat.le_refl _⟩
    (fun x => { tmps := #[.slice (some ⟨g, 0, none⟩) ds.length c, undef, .slice none 0 0, .int .i64 0, .pointer (some ⟨wa.heap.size, 0, none⟩), .int .i64 (x.1 : Int), .int .i64 (x.2 : Int), .slice (some ⟨g, 0, none⟩) ds.length c, .int .i64 ds.length, .bool false, .slice (some ⟨g, 0, none⟩) ds.length c, .bool true, .bool false, .slice (some ⟨g, 0, none⟩) ds.length c, .func (.func 31) #[] #[.pointer (some ⟨wa.heap.size + 1, 0, none⟩)], .int .i64 (x.1 : Int), .int .i64 (x.2 : Int), undef, undef, undef, undef, undef, undef], defers := [] }) ?assign ?body ?done
  case assign =>
    intro l x W K hK
    gi_wp2
    exact hK
  case body =>
    rintro l pre x W ⟨⟨v, hv, hrow, -⟩, hB, hW0⟩ hpn
    have hc := hv.cell
    have hf := hv.frozen
    have hpl : (intsP pre).length ≤ 2 * pre.length := Nat.le_of_eq (intsP_len pre)
    have hnn : ds.length * ds.length ≤ 30 * 30 := Nat.mul_le_mul hl30 hl30
    gi_wp2_with (gi_at_builtin; refine appTwoIn rfl (.tmp 17) (.tmp 20) rfl W0.heap.size v (intsP pre) (x.1 : Int) (x.2 : Int) _ rfl rfl rfl hrow hW0 (by omega) ?_; intro v' w1 hown' hgrow; obtain ⟨g', cap', rfl⟩ := ownI_two hown'; obtain ⟨hv1, hv2, hr2, hk2, hb2⟩ := hv.appended (n₀ := w.heap.size) (by decide) (ownI_low (l := intsP pre) hrow (by omega)) (by omega) (by omega) (ownI_low hown' (by omega)) hgrow; have hc1 := hv1.cell; have hf1 := hv1.frozen)
    exact ⟨hk2.from _, Kd.app hv hv1 hrow hW0 hgrow, ⟨_, hv2, by rw [show pre ++ [x] = pre ++ [(x.1, x.2)] from rfl, intsP_add]; exact World.ownsRow.kept hown' (grownBy_setCell' w1 wa.heap.size _) (.inr (hv1.not_row (by decide) hown').symm), trivial⟩, hB.trans hb2, by have := hk2.size; omega⟩
  case done =>
    rintro ys W rfl ⟨⟨v, hv, hrow, -⟩, hB, hW0⟩ hK
    have hc := hv.cell
    gi_wp2
    refine ⟨by simp, .inl ⟨_, _, rfl, run_takeDeferred hK, ?_⟩⟩
    refine ⟨.tuple #[v, .int .i64 0], by simp [results, Tryz.f7, go_sem], ⟨v, rfl, ownI_low (base := W0.heap.size) (ownsRow_putObj hrow _ hK rfl) (by have := hB0.size; omega)⟩, hB.trans (belowK_b (w := w) (Nat.le_refl _) W W0.heap.size _ _ (by have := hB0.size; omega) hK rfl rfl)⟩

end Go.Proofs.YthjimbnpkkpbkaaGreatDoor.Ce

/- Which places EdgesOf tells: the specification's answer. -/
namespace Go.Proofs.YthjimbnpkkpbkaaGreatDoor.Ce
open Go.RowKit Go.ChangeShapes Go.WideShapes Go.ChangeAt Go.Joins Tr Co Rea
set_option linter.unusedVariables false

set_option maxRecDepth 8000 in
set_option maxHeartbeats 4000000 in
theorem specEdges_any (g c b1 : Nat) (l : List Dn) (w : World) (h1 : MadeDn w b1 g l) (hlen : l.length ≤ 1048576) (hs : ∀ v ∈ l, szDn v) :
    Calls Tryz.prog 5 #[.slice (some ⟨g, 0, none⟩) l.length c] w fun e w' => EdR l w e w' := by
  have HC0 : Hid (Calls _ _ _ _ _) := l09Dones_any g c b1 l w h1 hlen hs
  have H1 : Hid (MadeDn _ _ _ _) := h1
  clear h1 hs
  unfold EdR
  by_cases t0 : 4096 < l.length
  · have t1 : (4096 : Int) < (l.length : Int) := by omega
    have e1 : edgC l = 2 := by unfold edgC; rw [if_pos t0]
    have e2 : edgL l = [] := by
      unfold edgL
      rw [if_neg]
      intro h
      have := (dones_parts l h).1
      omega
    rw [e1, e2]
    clear HC0
    go_enter Tryz.func5, Tryz.ntmps5
    go_wp2_with fail
    refine bodyPost_ret (v := .tuple #[.slice (some ⟨w.heap.size, 0, none⟩) 0 0, .int .i64 2]) (by simp [results, Tryz.results5, go_sem]) rfl ⟨⟨_, rfl, OwnI.made w _ (Nat.le_refl _)⟩, by (repeat (first | (with_reducible exact Below.refl _ _) | (with_reducible assumption) | (with_reducible apply below_drewN) | (with_reducible apply Below.drew) | ((with_reducible refine Below.setCell ?_ ?_ _); rotate_left; focus (first | (simp; done) | (simp; omega) | omega)) | ((with_reducible refine Below.alloc ?_ ?_ _); rotate_left; focus (first | (simp; done) | (simp; omega) | omega))))⟩
  have t1 : ¬ (4096 : Int) < (l.length : Int) := by omega
  cases hD : donesB l
  · have e1 : edgC l = 1 := by unfold edgC; rw [if_neg t0, hD]; rfl
    have e2 : edgL l = [] := by unfold edgL; rw [hD]; rfl
    rw [e1, e2]
    rw [hD] at HC0
    clear hD e1 e2
    go_enter Tryz.func5, Tryz.ntmps5
    go_wp2_with fail
    refine HC0.out.mono ?_
    rintro e w1 ⟨rfl, hb⟩
    go_wp2_with fail
    refine bodyPost_ret (v := .tuple #[.slice (some ⟨w1.heap.size, 0, none⟩) 0 0, .int .i64 1]) (by simp [results, Tryz.results5, go_sem]) rfl ⟨⟨_, rfl, OwnI.made w1 _ hb.size⟩, hb.alloc hb.size _⟩
  have e1 : edgC l = 0 := by unfold edgC; rw [if_neg t0, hD]; rfl
  have e2 : edgL l = intsP (upTo l.length (otherP l) l.length 0) := by unfold edgL; rw [hD]; rfl
  rw [e1, e2]
  obtain ⟨hl30, hdn⟩ := dones_parts l hD
  have HDN : Hid (∀ x ∈ l, dnB x = true) := hdn
  rw [hD] at HC0
  clear hD e1 e2 hdn
  go_enter Tryz.func5, Tryz.ntmps5
  go_wp2_with fail
  refine HC0.out.mono ?_
  rintro e w1 ⟨rfl, hb⟩
  have HO0 : Hid (OwnI _ _ _ _) := OwnI.made w1 w.heap.size hb.size
  have hb0 := hb.alloc hb.size (.cells #[] 3)
  clear HC0 hb
  go_wp2_with fail
  generalize w1.alloc _ = W0 at HO0 hb0 ⊢
  go_loopw [4, 5] (fun v i wr => ∃ k : Nat, k ≤ l.length ∧ i = .int .i64 k ∧ OwnI wr w.heap.size v (intsP (upTo l.length (otherP l) k 0)) ∧ Below w.heap.size w wr) (fun _ i _ => l.length - (intOf i).toNat)
  case atStart => exact ⟨0, Nat.zero_le _, rfl, by rw [upTo_zero]; exact HO0.out, hb0⟩
  case round =>
    rename_i u4 u5
    obtain ⟨k, hk, rfl, hown, hbel⟩ := hrel
    have HO1 : Hid (OwnI _ _ _ _) := hown
    clear hown HO0
    by_cases hlt : k < l.length
    · have hlt2 : (k : Int) < (l.length : Int) := by omega
      go_wp2_with fail
      go_loopw [4, 6] (fun v i wr => ∃ q : Nat, q ≤ l.length ∧ i = .int .i64 q ∧ OwnI wr w.heap.size v (intsP (upTo l.length (otherP l) k q)) ∧ Below w.heap.size w wr) (fun _ i _ => l.length - (intOf i).toNat)
      case atStart => exact ⟨0, Nat.zero_le _, rfl, HO1.out, hbel⟩
      case round =>
        obtain ⟨q, hq, rfl, hown2, hbel2⟩ := hrel
        have HO2 : Hid (OwnI _ _ _ _) := hown2
        clear hown2 HO1
        by_cases hlq : q < l.length
        · have hlq2 : (q : Int) < (l.length : Int) := by omega
          have hnu : Nonempty (Under wr) := ⟨⟨wr, Below.refl _ _⟩⟩
          by_cases hkq : k = q
          · have hkb : ((k : Int) != (q : Int)) = false := by simp [hkq]
            have HNO : Hid (otherP l k q = false) := by show otherP l k q = false; unfold otherP; rw [hkq]; simp
            clear hkq
            have HC : Hid True := trivial
            go_wp2_with fail
            refine wp_region_under (by kernel_rfl) (by kernel_rfl) ?_
            repeat (go_big_quiet_step ((go_at_call 15; fail)))
            refine wpQuiet_nil ?_
            rintro _ ⟨u, rfl⟩
            have hbw := hbel2.trans (u.h.mono hbel2.size)
            have HO3 : Hid (OwnI u.x _ _ _) := owns_below HO2.out u.h
            go_wp2_with fail
            go_roundw
            case rel => exact ⟨q + 1, by omega, by go_num, by rw [upTo_next _ _ _ _ HNO.out]; exact HO3.out, hbw⟩
            case measure => simp [intOf]; omega
          · have hkb : ((k : Int) != (q : Int)) = true := by simp; omega
            have R1 := H1.out.next hbel2
            obtain ⟨gr, gc, ⟨x0, x1, x2, x3, x4, x5⟩, u0, u1, u2⟩ := R1.cells k hlt
            obtain ⟨kr, kc, ⟨y0, y1, y2, y3, y4, y5⟩, v0, v1, v2⟩ := R1.cells q hlq
            have hg1 := R1.lt
            have hdx := dn_parts l[k] (HDN.out _ (List.getElem_mem _))
            have hdy := dn_parts l[q] (HDN.out _ (List.getElem_mem _))
            have HPQ : Hid (otherP l k q = aheadD l[k] l[q]) := by show otherP l k q = _; unfold otherP; rw [edgeP_at l k hlt q hlq]; simp [hkq]
            obtain ⟨x, hx⟩ : ∃ x, x = l[k] := ⟨_, rfl⟩
            rw [← hx] at x0 x1 x2 x3 x4 x5 u0 u1 hdx HPQ
            obtain ⟨y, hy⟩ : ∃ y, y = l[q] := ⟨_, rfl⟩
            rw [← hy] at y0 y1 y2 y3 y4 y5 v0 v1 hdy HPQ
            have HC : Hid (∀ W : World, Below wr.heap.size wr W → Calls _ _ _ W _) := fun W hW => l09Ahead_any x.sn x.at_ y.sn y.at_ x.di x.do_ y.di y.do_ (some ⟨gc, 0, none⟩) (some ⟨kr, 0, none⟩) x.cs.length x.cs.length y.rs.length y.rs.length gr kc x.rs.length y.cs.length b1 x.rs y.cs W (u0.next hW) (v1.next hW) hdx.1 hdy.2.1 hdx.2.2.1 hdy.2.2.2
            have hab : aheadB x.sn x.at_ y.sn y.at_ x.rs y.cs = aheadD x y := rfl
            rw [hab] at HC
            have s0 : ∀ u : Under wr, u.x.cell? ⟨g, k * 6, none⟩ = some (.int .i64 x.sn) := fun u => (u.h.cell hg1).trans x0
            have s1 : ∀ u : Under wr, u.x.cell? ⟨g, k * 6 + 1, none⟩ = some (.int .i64 x.at_) := fun u => (u.h.cell hg1).trans x1
            have s2 : ∀ u : Under wr, u.x.cell? ⟨g, k * 6 + 2, none⟩ = some (.slice (some ⟨gr, 0, none⟩) x.rs.length x.rs.length) := fun u => (u.h.cell hg1).trans x2
            have s3 : ∀ u : Under wr, u.x.cell? ⟨g, k * 6 + 3, none⟩ = some (.slice (some ⟨gc, 0, none⟩) x.cs.length x.cs.length) := fun u => (u.h.cell hg1).trans x3
            have s4 : ∀ u : Under wr, u.x.cell? ⟨g, k * 6 + 4, none⟩ = some (.bool x.di) := fun u => (u.h.cell hg1).trans x4
            have s5 : ∀ u : Under wr, u.x.cell? ⟨g, k * 6 + 5, none⟩ = some (.bool x.do_) := fun u => (u.h.cell hg1).trans x5
            have r0 : ∀ u : Under wr, u.x.cell? ⟨g, q * 6, none⟩ = some (.int .i64 y.sn) := fun u => (u.h.cell hg1).trans y0
            have r1 : ∀ u : Under wr, u.x.cell? ⟨g, q * 6 + 1, none⟩ = some (.int .i64 y.at_) := fun u => (u.h.cell hg1).trans y1
            have r2 : ∀ u : Under wr, u.x.cell? ⟨g, q * 6 + 2, none⟩ = some (.slice (some ⟨kr, 0, none⟩) y.rs.length y.rs.length) := fun u => (u.h.cell hg1).trans y2
            have r3 : ∀ u : Under wr, u.x.cell? ⟨g, q * 6 + 3, none⟩ = some (.slice (some ⟨kc, 0, none⟩) y.cs.length y.cs.length) := fun u => (u.h.cell hg1).trans y3
            have r4 : ∀ u : Under wr, u.x.cell? ⟨g, q * 6 + 4, none⟩ = some (.bool y.di) := fun u => (u.h.cell hg1).trans y4
            have r5 : ∀ u : Under wr, u.x.cell? ⟨g, q * 6 + 5, none⟩ = some (.bool y.do_) := fun u => (u.h.cell hg1).trans y5
            clear hx hy hab hkq R1 u0 u1 u2 v0 v1 v2 hdx hdy x0 x1 x2 x3 x4 x5 y0 y1 y2 y3 y4 y5
            cases hP : aheadD x y
            · rw [hP] at HC
              have HNO : Hid (otherP l k q = false) := HPQ.out.trans hP
              clear hP HPQ
              go_wp2_with fail
              refine wp_region_under (by kernel_rfl) (by kernel_rfl) ?_
              repeat (go_big_quiet_step ((go_at_call 15; exact calls_under _ (HC.out _ (Under.h _)))))
              refine wpQuiet_nil ?_
              rintro _ ⟨u, rfl⟩
              have hbw := hbel2.trans (u.h.mono hbel2.size)
              have HO3 : Hid (OwnI u.x _ _ _) := owns_below HO2.out u.h
              go_wp2_with fail
              go_roundw
              case rel => exact ⟨q + 1, by omega, by go_num, by rw [upTo_next _ _ _ _ HNO.out]; exact HO3.out, hbw⟩
              case measure => simp [intOf]; omega
            · rw [hP] at HC
              have HYES : Hid (otherP l k q = true) := HPQ.out.trans hP
              clear hP HPQ
              go_wp2_with fail
              refine wp_region_under (by kernel_rfl) (by kernel_rfl) ?_
              repeat (go_big_quiet_step ((go_at_call 15; exact calls_under _ (HC.out _ (Under.h _)))))
              refine wpQuiet_nil ?_
              rintro _ ⟨u, rfl⟩
              have hbw := hbel2.trans (u.h.mono hbel2.size)
              have HO3 : Hid (OwnI u.x _ _ _) := owns_below HO2.out u.h
              clear s0 s1 s2 s3 s4 s5 r0 r1 r2 r3 r4 r5 hnu HC
              generalize u.x = W3 at HO3 hbw ⊢
              clear u
              have hzW := hbw.size
              have hll := other_len l hl30 k q (by omega) (by omega)
              go_wp2_with (at_builtin; refine appTwoI rfl (.tmp 42) (.tmp 45) rfl w.heap.size _ _ (k : Int) (q : Int) _ rfl rfl (by simp) HO3.out hzW (by omega) ?_; intro v1 w4 o1 b1'; refine Hid.out ?_)
              refine Lib.hid ?_
              have hb4 := hbw.trans b1'
              go_wp2_with fail
              go_roundw
              case rel => exact ⟨q + 1, by omega, by go_num, by rw [upTo_add _ _ _ _ HYES.out, intsP_add]; exact o1, hb4⟩
              case measure => simp [intOf]; omega
        · have hlq2 : ¬ (q : Int) < (l.length : Int) := by omega
          obtain rfl : q = l.length := by omega
          go_wp2_with fail
          go_roundw
          case rel => exact ⟨k + 1, by omega, by go_num, by rw [upTo_turn]; exact HO2.out, hbel2⟩
          case measure => simp [intOf]; omega
    · have hlt2 : ¬ (k : Int) < (l.length : Int) := by omega
      obtain rfl : k = l.length := by omega
      go_wp2_with fail
      go_ret2
      exact ⟨⟨_, rfl, HO1.out⟩, hbel⟩

end Go.Proofs.YthjimbnpkkpbkaaGreatDoor.Ce

/- The law's own walk of EdgesOf. -/
namespace Go.Proofs.YthjimbnpkkpbkaaGreatDoor.EdgesOff
open Go.RowKit Tr Co Rea Ce
set_option linter.unusedVariables false

theorem own_in {w : World} {base n c : Nat} {p : Option Addr} {l : List Int} (h : OwnI w base (.slice p n c) l) : InN w p l := by
  obtain ⟨q, d, e, N⟩ := h.inN
  injection e with e1 e2 e3
  subst e1
  exact N
theorem mkD_le' (l : List Dn) (r : Int) (h0 : 0 ≤ r) (h1 : r + (cntD l : Int) ≤ 1048576) : Ty.mkD l ≤ 10485760 := by
  have := Ty.mkD_le l
  omega
set_option maxRecDepth 8000 in
set_option maxHeartbeats 4000000 in
theorem walk (a : Option Addr) (cap : Nat) (l : List Dn) (hl : l.length ≤ maxLen) (hm : ∀ v ∈ l, maxDn v) (w : World) (hin : InDn w a l) :
    Calls Tryz.prog 3 #[.slice a l.length cap] w fun e w' => e = .returned (.bool true) ∧ Below w.heap.size w w' := by
  have HZ : Hid (Calls _ _ _ _ _) := szDoneS_tot a cap l 1048576 w hin hl hm (by omega) (by omega)
  go_enter Tryz.func3, Tryz.ntmps3
  go_wp2_with fail
  refine HZ.out.mono ?_
  rintro e w1 ⟨⟨r, rfl, hr⟩, hb1⟩
  clear HZ
  rcases hr with hneg | ⟨hr0, hr1, hr2, hr3⟩
  · go_wp2_with fail
    go_ret
    exact ⟨rfl, hb1⟩
  have hnn : ¬ r < 0 := by omega
  have hmk := mkD_le' l r hr0 hr1
  have HTO : Hid (∀ W : World, Below w.heap.size w W → Calls _ _ _ W _) := fun W hW => Ty.toDoneS_any a cap l W (hin.step hW) hr2 hr3
  have HEQ : Hid (∀ (g1 g2 b1 b2 : Nat) (W : World), Ce.MadeDn W b1 g1 l → Ce.MadeDn W b2 g2 l → Calls _ _ _ W _) := fun g1 g2 b1 b2 W x y => eqDoneS_same g1 g2 l.length l.length b1 b2 l W x y hr2 hr3
  have HS0 := fun (g b : Nat) (W : World) (hW : Ce.MadeDn W b g l) => specEdges_any g l.length b l W hW hr2 hr3
  have HI0 := fun (g b : Nat) (W : World) (hW : Ce.MadeDn W b g l) => implEdges_any g l.length b l W hW hr2 hr3
  have hE := edgL_len l
  obtain ⟨E, hEe⟩ : ∃ E, E = edgL l := ⟨_, rfl⟩
  obtain ⟨C, hCe⟩ : ∃ C, C = edgC l := ⟨_, rfl⟩
  unfold EdR at HS0 HI0
  rw [← hEe, ← hCe] at HS0 HI0
  rw [← hEe] at hE
  have HS : Hid (∀ (g b : Nat) (W : World), Ce.MadeDn W b g l → Calls Tryz.prog 5 #[.slice (some ⟨g, 0, none⟩) l.length l.length] W fun e w' => (∃ v, e = .returned (.tuple #[v, .int .i64 C]) ∧ OwnI w' W.heap.size v E) ∧ Below W.heap.size W w') := HS0
  have HI : Hid (∀ (g b : Nat) (W : World), Ce.MadeDn W b g l → Calls Tryz.prog 7 #[.slice (some ⟨g, 0, none⟩) l.length l.length] W fun e w' => (∃ v, e = .returned (.tuple #[v, .int .i64 C]) ∧ OwnI w' W.heap.size v E) ∧ Below W.heap.size W w') := HI0
  have HSZ : Hid (l.length ≤ 1048576 ∧ Ty.mkD l ≤ 10485760 ∧ ∀ d ∈ l, d.rs.length ≤ 1048576 ∧ d.cs.length ≤ 1048576 ∧ ∀ x ∈ d.rs, x.f.length ≤ 1048576 ∧ ∀ y ∈ x.f, y.length ≤ 1048576) := ⟨hr2, hmk, fun d hd => ⟨(hr3 d hd).r0, (hr3 d hd).s0, fun x hx => ⟨((hr3 d hd).r1 x hx).f0, ((hr3 d hd).r1 x hx).len⟩⟩⟩
  have HB1 : Hid (Below w.heap.size w w1) := hb1
  have z1 := hb1.size
  clear HS0 HI0 hEe hCe hin hr1 hr3 hm hmk hb1
  go_wp2_with fail
  refine (HTO.out _ HB1.out).mono ?_
  rintro e w2 ⟨⟨g2, rfl, O2⟩, hb⟩
  have z2 := hb.size
  have HB2 : Hid (Below w.heap.size w w2) := HB1.out.trans (hb.mono z1)
  have HO2 : Hid (Ty.MadeDn _ _ _ _) := O2
  clear hb O2 HB1
  go_wp2_with fail
  refine (HS.out g2 _ _ HO2.out.old).mono ?_
  rintro e w3 ⟨⟨v3, rfl, P3⟩, hb⟩
  have z3 := hb.size
  have HB3 : Hid (Below w.heap.size w w3) := HB2.out.trans (hb.mono (Nat.le_trans z1 z2))
  have HP3 : Hid (OwnI w3 w2.heap.size v3 E ∧ ∀ g, v3.ownBlock = some g → g < w3.heap.size) := ⟨P3, fun g hg => (World.ownsRow.lt P3 g hg).2⟩
  clear hb P3 HO2 HB2
  go_wp2_with fail
  refine (HTO.out _ HB3.out).mono ?_
  rintro e w4 ⟨⟨g4, rfl, O4⟩, hb⟩
  have z4 := hb.size
  have HB34 : Hid (Below w3.heap.size w3 w4) := hb
  have HO4 : Hid (Ty.MadeDn _ _ _ _) := O4
  clear hb O4
  go_wp2_with fail
  refine (HI.out g4 _ _ HO4.out.old).mono ?_
  rintro e w5 ⟨⟨v5, rfl, P5⟩, hb⟩
  have z5 := hb.size
  have HB45 : Hid (Below w4.heap.size w4 w5) := hb
  have hlb5 := World.ownsRow.lt P5
  obtain ⟨p5, c5, rfl, N5⟩ := P5.inN
  have hP3 := HP3.out
  have e3 : OwnI w5 w2.heap.size v3 E := owns_below (owns_below hP3.1 HB34.out) hb
  obtain ⟨p3, c3, rfl, N3⟩ := e3.inN
  have HP5 : Hid (OwnI w5 w4.heap.size (.slice p5 E.length c5) E) := P5
  have HP3' : Hid (OwnI w5 w2.heap.size (.slice p3 E.length c3) E) := e3
  have HL3 : Hid (∀ g, (Value.slice p3 E.length c3).ownBlock = some g → g < w3.heap.size) := hP3.2
  have HL5 : Hid (∀ g, (Value.slice p5 E.length c5).ownBlock = some g → w4.heap.size ≤ g) := fun g hg => (hlb5 g hg).1
  have HQ5 : Hid (Calls _ _ _ _ _) := eqIntS_same p5 p3 c5 c3 E w5 N5 N3 (by omega)
  clear hb P5 HP3 hP3 e3 N5 N3 hlb5
  go_wp2_with fail
  refine HQ5.out.mono ?_
  rintro e w6 ⟨rfl, hb⟩
  have z6 := hb.size
  have HB56 : Hid (Below w5.heap.size w5 w6) := hb
  have HB36 : Hid (Below w3.heap.size w3 w6) := HB34.out.trans ((HB45.out.trans (hb.mono z5)).mono z4)
  clear hb HQ5
  go_wp2_with fail
  refine (HTO.out _ (HB3.out.trans (HB36.out.mono (by omega)))).mono ?_
  rintro e w7 ⟨⟨g7, rfl, O7⟩, hb⟩
  have z7 := hb.size
  have HB57 : Hid (Below w5.heap.size w5 w7) := HB56.out.trans (hb.mono z6)
  have HB47 : Hid (Below w4.heap.size w4 w7) := HB45.out.trans (HB57.out.mono z5)
  have HO7 : Hid (Ce.MadeDn _ _ _ _) := O7.old
  clear hb O7 HB56
  go_wp2_with fail
  refine (HEQ.out g4 g7 _ _ _ (HO4.out.next HB47.out).old HO7.out).mono ?_
  rintro e w8 ⟨rfl, hb⟩
  have z8 := hb.size
  have HB58 : Hid (Below w5.heap.size w5 w8) := HB57.out.trans (hb.mono (by omega))
  have HB48 : Hid (Below w4.heap.size w4 w8) := HB47.out.trans (hb.mono (by omega))
  have HB38 : Hid (Below w3.heap.size w3 w8) := HB34.out.trans (HB48.out.mono z4)
  have HM8 : Hid (Calls _ _ _ _ _) := Ty.markDoneS_any w3.heap.size w4.heap.size g4 l.length l 1 w8 (HO4.out.sh.mk' (Ty.Mk.of_below HB48.out)) (by omega) (by have := HSZ.out.2.1; omega) HSZ.out.1 HSZ.out.2.2
  clear hb HB57 HB47 HO7 HEQ HB36 HB45 HB34
  go_wp2_with fail
  refine HM8.out.mono ?_
  rintro e w9 ⟨rfl, hm9⟩
  have hk9 : ¬ (((1 + Ty.mkD l : Nat) : Int) < 0) := by omega
  have z9 := hm9.chg.size
  have O5 := owns_below HP5.out HB58.out
  have O3 := owns_below HP3'.out HB58.out
  have M5 : OwnI w9 w4.heap.size (.slice p5 E.length c5) E := hm9.chg.owns O5 (fun g hg => .inr (HL5.out g hg))
  have M3 : OwnI w9 w2.heap.size (.slice p3 E.length c3) E := hm9.chg.owns O3 (fun g hg => .inl (HL3.out g hg))
  have HB9 : Hid (Below w.heap.size w w9) := (HB3.out.trans (HB38.out.mono (by omega))).trans (hm9.chg.below (by omega) (by omega))
  have HQ9 : Hid (Calls _ _ _ _ _) := eqIntS_same p5 p3 c5 c3 E w9 (own_in M5) (own_in M3) (by omega)
  have HM5 : Hid (OwnI w9 w4.heap.size (.slice p5 E.length c5) E) := M5
  have HM3 : Hid (OwnI w9 w2.heap.size (.slice p3 E.length c3) E) := M3
  clear hm9 O5 O3 M5 M3 HM8 HB58 HB48 HB38 HO4 HP5 HP3' HB3
  go_wp2_with fail
  refine HQ9.out.mono ?_
  rintro e w10 ⟨rfl, hb⟩
  have z10 := hb.size
  have HB10 : Hid (Below w.heap.size w w10) := HB9.out.trans (hb.mono (by omega))
  have K5 : OwnI w10 w4.heap.size (.slice p5 E.length c5) E := owns_below HM5.out hb
  have HK3 : Hid (OwnI w10 w2.heap.size (.slice p3 E.length c3) E) := owns_below HM3.out hb
  have HK5 : Hid (Calls _ _ _ _ _) := markIntS_any w4.heap.size _ E 1 w10 K5 (by omega) (by omega)
  clear hb K5 HM5 HM3 HQ9 HB9
  go_wp2_with fail
  refine HK5.out.mono ?_
  rintro e w11 ⟨rfl, K5, hg⟩
  have z11 := hg.size
  have K3 : OwnI w11 w2.heap.size (.slice p3 E.length c3) E := World.ownsRow.kept HK3.out hg (by
    cases h : (Value.slice p3 E.length c3).ownBlock with
    | none => exact .inl rfl
    | some g =>
      refine .inr (fun h2 => ?_)
      have a1 := HL3.out g h
      have a2 := HL5.out g h2.symm
      omega)
  have HB11 : Hid (Below w.heap.size w w11) := HB10.out.grown hg (by omega) (fun k hk => by have := HL5.out k hk; omega)
  have HH : Hid (Calls _ _ _ _ _) := heldIntS_any p5 c5 E.length 1 w11 (own_in K5) (by omega) (by omega)
  have HK5' : Hid (OwnI w11 w4.heap.size (.slice p5 E.length c5) (marksN 1 E.length)) := K5
  have HK3' : Hid (OwnI w11 w2.heap.size (.slice p3 E.length c3) E) := K3
  clear hg K3 K5 HK5 HK3 HB10
  go_wp2_with fail
  refine HH.out.mono ?_
  rintro e w12 ⟨rfl, hb⟩
  have hk12 : ¬ (((1 + E.length : Nat) : Int) < 0) := by omega
  have z12 := hb.size
  have HB12 : Hid (Below w.heap.size w w12) := HB11.out.trans (hb.mono (by omega))
  have HR5 : Hid (OwnI w12 w4.heap.size (.slice p5 E.length c5) (marksN 1 E.length)) := owns_below HK5'.out hb
  have HR3 : Hid (OwnI w12 w2.heap.size (.slice p3 E.length c3) E) := owns_below HK3'.out hb
  clear hb HH HK5' HK3' HB11
  go_wp2_with fail
  refine (HTO.out _ HB12.out).mono ?_
  rintro e w13 ⟨⟨g13, rfl, O13⟩, hb⟩
  have z13 := hb.size
  have HB13 : Hid (Below w12.heap.size w12 w13) := hb
  have HO13 : Hid (Ce.MadeDn _ _ _ _) := O13.old
  clear hb O13
  go_wp2_with fail
  refine (HI.out g13 _ _ HO13.out).mono ?_
  rintro e w14 ⟨⟨v14, rfl, P14⟩, hb⟩
  have z14 := hb.size
  have HB14 : Hid (Below w12.heap.size w12 w14) := HB13.out.trans (hb.mono z13)
  obtain ⟨p14, c14, rfl, N14⟩ := P14.inN
  have HQ : Hid (Calls _ _ _ _ _) := eqIntS_same p14 p3 c14 c3 E w14 N14 (own_in (owns_below HR3.out HB14.out)) (by omega)
  clear hb P14 N14 HB13 HO13
  go_wp2_with fail
  refine HQ.out.mono ?_
  rintro e w15 ⟨rfl, hb⟩
  have z15 := hb.size
  have hB15 : Below w12.heap.size w12 w15 := HB14.out.trans (hb.mono (by omega))
  have HB15 : Hid (Below w.heap.size w w15) := HB12.out.trans (hB15.mono (by omega))
  have HQ2 : Hid (Calls _ _ _ _ _) := heldIntS_any p5 c5 E.length 1 w15 (own_in (owns_below HR5.out hB15)) (by omega) (by omega)
  clear hb hB15 HQ HB14 HR3 HR5
  go_wp2_with fail
  refine HQ2.out.mono ?_
  rintro e w16 ⟨rfl, hb⟩
  have HB16 : Hid (Below w.heap.size w w16) := HB15.out.trans (hb.mono (by omega))
  clear hb HQ2 HB15 HB12
  go_wp2_with fail
  go_ret
  exact ⟨rfl, HB16.out⟩

end Go.Proofs.YthjimbnpkkpbkaaGreatDoor.EdgesOff
