/- Whether lists of committed ones are right: both answers. -/
import Derived.Test.YtcggkeleaepebaaGreatDoorDnsRQ
import Derived.Test.YtcggkeleaepebaaGreatDoorFiltMQ
import Derived.Test.YtcggkeleaepebaaGreatDoorTrMQ
import Derived.OwnWalkIn
import Derived.Test.YtcggkeleaepebaaGreatDoorTwcIQ
namespace Go.Proofs.YtcggkeleaepebaaGreatDoor.Ce
open Go.RowKit Go.ChangeShapes Go.WideShapes Go.ChangeAt Go.Joins Tr Co Rea
set_option linter.unusedVariables false

def dnB (x : Dn) : Bool := doneB x.sn x.at_ x.rs x.cs
/-- They rise by their times, and none is a pivot. -/
def riseB (z : Int) : List Dn → Bool
  | [] => true
  | x :: l => decide (z < x.at_) && (dnB x && (!(x.di && x.do_) && riseB x.at_ l))
def lastD (l : List Dn) (k : Nat) : Int := if k = 0 then 0 else (l[k - 1]?.map (·.at_)).getD 0
def donesB (l : List Dn) : Bool := riseB 0 l && decide (l.length ≤ 30)
theorem riseB_step (z : Int) (l : List Dn) (k : Nat) (h : k < l.length) : riseB z (l.drop k) = (decide (z < l[k].at_) && (dnB l[k] && (!(l[k].di && l[k].do_) && riseB l[k].at_ (l.drop (k + 1))))) := by
  rw [List.drop_eq_getElem_cons h]; rfl
theorem riseB_end (z : Int) (l : List Dn) (k : Nat) (h : l.length ≤ k) : riseB z (l.drop k) = true := by
  rw [List.drop_of_length_le h]; rfl
theorem lastD_succ (l : List Dn) (k : Nat) (h : k < l.length) : lastD l (k + 1) = l[k].at_ := by
  simp [lastD, List.getElem?_eq_getElem h]
theorem dnB_pos (x : Dn) (h : dnB x = true) : 0 < x.at_ := by
  unfold dnB doneB at h
  simp only [Bool.and_eq_true, decide_eq_true_eq] at h
  omega

/-- They rise by their times, whoever is a pivot. -/
def rizB (z : Int) : List Dn → Bool
  | [] => true
  | x :: l => decide (z < x.at_) && (dnB x && rizB x.at_ l)
def pvB (x : Dn) : Bool := x.di && x.do_
theorem rizB_step (z : Int) (l : List Dn) (k : Nat) (h : k < l.length) : rizB z (l.drop k) = (decide (z < l[k].at_) && (dnB l[k] && rizB l[k].at_ (l.drop (k + 1)))) := by
  rw [List.drop_eq_getElem_cons h]; rfl
theorem rizB_end (z : Int) (l : List Dn) (k : Nat) (h : l.length ≤ k) : rizB z (l.drop k) = true := by
  rw [List.drop_of_length_le h]; rfl
theorem riseB_parts (z : Int) (l : List Dn) : riseB z l = (rizB z l && l.all fun x => !(pvB x)) := by
  induction l generalizing z with
  | nil => rfl
  | cons x l ih =>
    simp only [riseB, rizB, List.all_cons, ih, pvB]
    cases decide (z < x.at_) <;> cases dnB x <;> cases x.di <;> cases x.do_ <;> cases rizB x.at_ l <;> rfl

set_option maxRecDepth 8000 in
set_option maxHeartbeats 4000000 in
theorem donesRise_any (g c b1 : Nat) (l : List Dn) (w : World) (h1 : MadeDn w b1 g l) (hlen : l.length ≤ 1048576) (hs : ∀ v ∈ l, szDn v) :
    Calls Tryz.prog 48 #[.slice (some ⟨g, 0, none⟩) l.length c] w fun e w' => e = .returned (.bool (rizB 0 l)) ∧ Below w.heap.size w w' := by
  have H1 : Hid (MadeDn _ _ _ _) := h1
  have HS : Hid (∀ v ∈ l, szDn v) := hs
  clear h1 hs
  obtain ⟨R, hR⟩ : ∃ R, R = rizB 0 l := ⟨_, rfl⟩
  rw [← hR]
  have HR : Hid (R = rizB 0 (l.drop 0)) := hR
  clear hR
  go_enter Tryz.func48, Tryz.ntmps48
  go_wp2_with fail
  go_loopw [3, 8] (fun z i wr => ∃ (k : Nat) (y : Int), k ≤ l.length ∧ i = .int .i64 k ∧ z = .int .i64 y ∧ R = rizB y (l.drop k) ∧ Below w.heap.size w wr) (fun _ i _ => l.length - (intOf i).toNat)
  case atStart => exact ⟨0, 0, Nat.zero_le _, rfl, rfl, HR.out, Below.refl _ _⟩
  case round =>
    obtain ⟨k, z, hk, rfl, rfl, hrk, hbel⟩ := hrel
    clear HR
    by_cases hlt : k < l.length
    · have hlt2 : (k : Int) < (l.length : Int) := by omega
      have R1 := H1.out.next hbel
      obtain ⟨gr, gc, ⟨x0, x1, x2, x3, x4, x5⟩, u0, u1, u2⟩ := R1.cells k hlt
      have hg1 := R1.lt
      have hsk := HS.out l[k] (List.getElem_mem _)
      rw [rizB_step z l k hlt] at hrk
      obtain ⟨x, hx⟩ : ∃ x, x = l[k] := ⟨_, rfl⟩
      rw [← hx] at x0 x1 x2 x3 x4 x5 u0 u1 hsk hrk
      have X0 := BxDn.start wr (.int .i64 x.sn) (.int .i64 x.at_) (.slice (some ⟨gr, 0, none⟩) x.rs.length x.rs.length) (.slice (some ⟨gc, 0, none⟩) x.cs.length x.cs.length) (.bool x.di) (.bool x.do_) 36
      have HC : Hid (Calls _ _ _ _ _) := doneOK_any x.sn x.at_ gr gc x.rs.length x.cs.length b1 x.di x.do_ x.rs x.cs (wr.alloc (.cells #[.int .i64 x.sn, .int .i64 x.at_, .slice (some ⟨gr, 0, none⟩) x.rs.length x.rs.length, .slice (some ⟨gc, 0, none⟩) x.cs.length x.cs.length, .bool x.di, .bool x.do_] 36)) (u0.next X0.bel) (u1.next X0.bel) hsk.r0 hsk.s0 hsk.r1 hsk.s1
      have hdb : doneB x.sn x.at_ x.rs x.cs = dnB x := rfl
      rw [hdb] at HC
      have HRK : Hid (R = _) := hrk
      clear hdb hx R1 u0 u1 u2 hsk hrk
      by_cases t1 : z < x.at_
      case neg =>
        have t2 : x.at_ ≤ z := by omega
        have HF : Hid (R = false) := by show R = false; rw [HRK.out, decide_eq_false t1, Bool.false_and]
        have hbw := hbel.trans (X0.bel.mono hbel.size)
        clear HC X0 HRK
        go_wp2_with fail
        go_ret
        exact ⟨by rw [HF.out]; rfl, hbw⟩
      have t2 : ¬ x.at_ ≤ z := by omega
      cases hD : dnB x
      · rw [hD] at HC
        have HF : Hid (R = false) := by show R = false; rw [HRK.out, hD, Bool.false_and, Bool.and_false]
        clear hD HRK
        go_wp2_with fail
        refine HC.out.mono ?_
        rintro e w1 ⟨rfl, hb⟩
        have hbw := hbel.trans ((X0.step hb).bel.mono hbel.size)
        clear hb X0 HC
        go_wp2_with fail
        go_ret
        exact ⟨by rw [HF.out]; rfl, hbw⟩
      rw [hD] at HC
      have HF : Hid (R = rizB x.at_ (l.drop (k + 1))) := by show R = _; rw [HRK.out, hD, decide_eq_true t1]; rfl
      clear hD HRK
      go_wp2_with fail
      refine HC.out.mono ?_
      rintro e w1 ⟨rfl, hb⟩
      have X1 := X0.step hb
      have z1 := X1.c1
      have hbw := hbel.trans (X1.bel.mono hbel.size)
      clear hb X0 HC x0 x1 x2 x3 x4 x5
      go_wp2_with fail
      go_roundw
      case rel => exact ⟨k + 1, x.at_, by omega, by go_num, rfl, HF.out, hbw⟩
      case measure => simp [intOf]; omega
    · have hlt2 : ¬ (k : Int) < (l.length : Int) := by omega
      rw [rizB_end z l k (by omega)] at hrk
      subst hrk
      go_wp2_with fail
      go_ret
      exact ⟨rfl, hbel⟩

set_option maxRecDepth 4000 in
set_option maxHeartbeats 1000000 in
theorem idxPivot_any (g qc bs : Nat) (l : List Dn) (w : World) (hr : MadeDn w bs g l) (hl : l.length ≤ 1048576) :
    Calls Tryz.prog 75 #[.slice (some ⟨g, 0, none⟩) l.length qc, .func (.func 50) #[] #[]] w fun e w' => (∃ i : Int, e = .returned (.int .i64 i) ∧ decide (0 ≤ i) = !(l.all fun x => !(pvB x))) ∧ Below w.heap.size w w' := by
  have HR : Hid (MadeDn _ _ _ _) := hr
  clear hr
  go_enter Tryz.func75, Tryz.ntmps75
  go_wp2_with fail
  go_loopw [8] (fun i wr => ∃ k : Nat, k ≤ l.length ∧ i = .int .i64 k ∧ (∀ u ∈ l.take k, pvB u = false) ∧ Below w.heap.size w wr) (fun i _ => l.length - (intOf i).toNat)
  case atStart => exact ⟨0, Nat.zero_le _, rfl, fun u hu => by simp at hu, Below.refl _ _⟩
  case round =>
    obtain ⟨k, hk, rfl, hall, hbel⟩ := hrel
    have HA : Hid _ := hall
    clear hall
    by_cases hlt : k < l.length
    · have R := HR.out.next hbel
      have hg1 := R.lt
      obtain ⟨gr, gc, ⟨x0, x1, x2, x3, x4, x5⟩, _, _, _⟩ := R.cells k hlt
      have hlt2 : (k : Int) < (l.length : Int) := by omega
      have HK0 : ∀ W : World, Calls Tryz.prog 50 #[.agg #[.int .i64 l[k].sn, .int .i64 l[k].at_, .slice (some ⟨gr, 0, none⟩) l[k].rs.length l[k].rs.length, .slice (some ⟨gc, 0, none⟩) l[k].cs.length l[k].cs.length, .bool l[k].di, .bool l[k].do_]] W fun e w' => e = .returned (.bool (pvB l[k])) ∧ Below W.heap.size W w' := fun W => isPivot_any l[k].sn l[k].at_ (.slice (some ⟨gr, 0, none⟩) l[k].rs.length l[k].rs.length) (.slice (some ⟨gc, 0, none⟩) l[k].cs.length l[k].cs.length) l[k].di l[k].do_ W
      cases hP : pvB l[k]
      · rw [hP] at HK0
        have HK : Hid _ := HK0
        have HPK : Hid _ := hP
        clear R hP HK0
        go_wp2_with fail
        refine (HK.out _).mono ?_
        rintro e w1 ⟨rfl, hb⟩
        have hb1 := hbel.trans (hb.mono hbel.size)
        clear hb
        go_wp2_with fail
        go_roundw
        case rel =>
          refine ⟨k + 1, by omega, by go_num, ?_, hb1⟩
          intro u hu
          rw [List.take_succ_eq_append_getElem hlt] at hu
          rcases List.mem_append.mp hu with h | h
          · exact HA.out u h
          · simp at h; subst h; exact HPK.out
        case measure => simp [intOf]; omega
      · rw [hP] at HK0
        have HK : Hid _ := HK0
        have hal : (l.all fun x => !(pvB x)) = false := by
          rw [Bool.eq_false_iff]; intro hh
          have := List.all_eq_true.mp hh l[k] (List.getElem_mem _)
          rw [hP] at this; cases this
        have HL : Hid _ := hal
        clear R hP HK0 hal
        go_wp2_with fail
        refine (HK.out _).mono ?_
        rintro e w1 ⟨rfl, hb⟩
        have hb1 := hbel.trans (hb.mono hbel.size)
        clear hb
        go_wp2_with fail
        go_ret
        exact ⟨⟨k, rfl, by rw [HL.out]; exact decide_eq_true (by omega)⟩, hb1⟩
    · have hlt2 : ¬ (k : Int) < (l.length : Int) := by omega
      have hal : (l.all fun x => !(pvB x)) = true := List.all_eq_true.mpr (fun u hu => by rw [HA.out u (by rw [List.take_of_length_le (by omega)]; exact hu)]; rfl)
      have HL : Hid _ := hal
      clear hal
      go_wp2_with fail
      go_ret
      exact ⟨⟨-1, rfl, by rw [HL.out]; rfl⟩, hbel⟩

set_option maxRecDepth 4000 in
set_option maxHeartbeats 1000000 in
theorem anyPivot_any (g qc bs : Nat) (l : List Dn) (w : World) (hr : MadeDn w bs g l) (hl : l.length ≤ 1048576) :
    Calls Tryz.prog 49 #[.slice (some ⟨g, 0, none⟩) l.length qc, .func (.func 50) #[] #[]] w fun e w' => e = .returned (.bool (!(l.all fun x => !(pvB x)))) ∧ Below w.heap.size w w' := by
  have HI : Hid (Calls _ _ _ _ _) := idxPivot_any g qc bs l w hr hl
  clear hr
  go_enter Tryz.func49, Tryz.ntmps49
  go_wp2_with fail
  refine HI.out.mono ?_
  rintro e w1 ⟨⟨i, rfl, hi⟩, hb⟩
  have HJ : Hid _ := hi
  clear hi HI
  go_wp2_with fail
  go_ret
  exact ⟨ret_bool HJ.out, hb⟩

set_option maxRecDepth 8000 in
set_option maxHeartbeats 4000000 in
theorem doneListOK_any (g c b1 : Nat) (l : List Dn) (w : World) (h1 : MadeDn w b1 g l) (hlen : l.length ≤ 1048576) (hs : ∀ v ∈ l, szDn v) :
    Calls Tryz.prog 26 #[.slice (some ⟨g, 0, none⟩) l.length c] w fun e w' => e = .returned (.bool (donesB l)) ∧ Below w.heap.size w w' := by
  have H1 : Hid (MadeDn _ _ _ _) := h1
  have HC : Hid (Calls _ _ _ _ _) := donesRise_any g c b1 l w h1 hlen hs
  clear h1 hs
  obtain ⟨R, hR⟩ : ∃ R, R = donesB l := ⟨_, rfl⟩
  rw [← hR]
  obtain ⟨T, hT⟩ : ∃ T, T = rizB 0 l := ⟨_, rfl⟩
  obtain ⟨V, hV⟩ : ∃ V, V = l.all fun x => !(pvB x) := ⟨_, rfl⟩
  have HR : Hid (R = ((T && V) && decide (l.length ≤ 30))) := by show R = _; rw [hR, hT, hV, ← riseB_parts]; rfl
  have HV : Hid (V = l.all fun x => !(pvB x)) := hV
  rw [← hT] at HC
  clear hR hT hV
  by_cases hbig : l.length ≤ 30
  case neg =>
    have hb2 : ¬ (l.length : Int) ≤ 30 := by omega
    have HF : Hid (R = false) := by show R = false; rw [HR.out, decide_eq_false hbig, Bool.and_false]
    clear HC HR
    go_enter Tryz.func26, Tryz.ntmps26
    go_wp2_with fail
    go_ret
    exact ⟨by rw [HF.out]; rfl, Below.refl _ _⟩
  have hb2 : (l.length : Int) ≤ 30 := by omega
  cases T
  · have HF : Hid (R = false) := by show R = false; rw [HR.out]; rfl
    clear HR
    go_enter Tryz.func26, Tryz.ntmps26
    go_wp2_with fail
    refine HC.out.mono ?_
    rintro e w1 ⟨rfl, hb⟩
    clear HC
    go_wp2_with fail
    go_ret
    exact ⟨by rw [HF.out]; rfl, hb⟩
  have HF : Hid (R = V) := by show R = V; rw [HR.out, decide_eq_true hbig, Bool.and_true, Bool.true_and]
  clear HR
  go_enter Tryz.func26, Tryz.ntmps26
  go_wp2_with fail
  refine HC.out.mono ?_
  rintro e w1 ⟨rfl, hb⟩
  have HP : Hid (Calls _ _ _ _ _) := anyPivot_any g c b1 l w1 (H1.out.next hb) hlen
  rw [← HV.out] at HP
  clear HC HV H1
  go_wp2_with fail
  refine HP.out.mono ?_
  rintro e w2 ⟨rfl, hb2⟩
  have hbw := hb.trans (hb2.mono hb.size)
  clear hb hb2 HP
  cases V
  all_goals
    go_wp2_with fail
    go_ret
    exact ⟨by rw [HF.out]; rfl, hbw⟩

set_option maxRecDepth 8000 in
set_option maxHeartbeats 4000000 in
theorem l09Dones_any (g c b1 : Nat) (l : List Dn) (w : World) (h1 : MadeDn w b1 g l) (hlen : l.length ≤ 1048576) (hs : ∀ v ∈ l, szDn v) :
    Calls Tryz.prog 20 #[.slice (some ⟨g, 0, none⟩) l.length c] w fun e w' => e = .returned (.bool (donesB l)) ∧ Below w.heap.size w w' := by
  have H1 : Hid (MadeDn _ _ _ _) := h1
  have HS : Hid (∀ v ∈ l, szDn v) := hs
  clear h1 hs
  obtain ⟨R, hR⟩ : ∃ R, R = donesB l := ⟨_, rfl⟩
  rw [← hR]
  obtain ⟨N, hN⟩ : ∃ N, N = decide (l.length ≤ 30) := ⟨_, rfl⟩
  have HR : Hid (R = (riseB (lastD l 0) (l.drop 0) && N)) := by show R = _; rw [hR, hN]; rfl
  have HNN : Hid (N = decide (l.length ≤ 30)) := hN
  clear hR hN
  go_enter Tryz.func20, Tryz.ntmps20
  go_wp2_with fail
  go_loopw [3] (fun i wr => ∃ (k : Nat), k ≤ l.length ∧ i = .int .i64 k ∧ R = (riseB (lastD l k) (l.drop k) && N) ∧ Below w.heap.size w wr) (fun i _ => l.length - (intOf i).toNat)
  case atStart => exact ⟨0, Nat.zero_le _, rfl, HR.out, Below.refl _ _⟩
  case round =>
    obtain ⟨k, hk, rfl, hrk, hbel⟩ := hrel
    clear HR
    by_cases hlt : k < l.length
    · have hlt2 : (k : Int) < (l.length : Int) := by omega
      have R1 := H1.out.next hbel
      obtain ⟨gr, gc, ⟨x0, x1, x2, x3, x4, x5⟩, u0, u1, u2⟩ := R1.cells k hlt
      have hg1 := R1.lt
      have hsk := HS.out l[k] (List.getElem_mem _)
      rw [riseB_step _ l k hlt] at hrk
      have HLA : Hid (lastD l (k + 1) = l[k].at_) := lastD_succ l k hlt
      have hlast : (k = 0 ∧ lastD l k = 0) ∨ ∃ m, k = m + 1 ∧ wr.cell? ⟨g, m * 6 + 1, none⟩ = some (.int .i64 (lastD l k)) := by
        cases k with
        | zero => exact .inl ⟨rfl, rfl⟩
        | succ m =>
          obtain ⟨_, _, ⟨_, e1, _⟩, _⟩ := R1.cells m (by omega)
          exact .inr ⟨m, rfl, by rw [lastD_succ l m (by omega)]; exact e1⟩
      obtain ⟨z, hz⟩ : ∃ z, z = lastD l k := ⟨_, rfl⟩
      rw [← hz] at hrk hlast
      obtain ⟨x, hx⟩ : ∃ x, x = l[k] := ⟨_, rfl⟩
      rw [← hx] at x0 x1 x2 x3 x4 x5 u0 u1 hsk hrk HLA
      have HC : Hid (∀ W : World, Below wr.heap.size wr W → Calls _ _ _ W _) := fun W hW => specDone_any x.sn x.at_ gr gc x.rs.length x.cs.length b1 x.di x.do_ x.rs x.cs W (u0.next hW) (u1.next hW) hsk.r0 hsk.s0 hsk.r1 hsk.s1
      have hdb : doneB x.sn x.at_ x.rs x.cs = dnB x := rfl
      rw [hdb] at HC
      have HPOS : Hid (dnB x = true → 0 < x.at_) := dnB_pos x
      have HRK : Hid (R = _) := hrk
      clear hz hx hdb R1 u0 u1 u2 hsk hrk
      have hnu : Nonempty (Under wr) := ⟨⟨wr, Below.refl _ _⟩⟩
      have hfork : True := trivial
      · clear hfork
        have s0 : ∀ u : Under wr, u.x.cell? ⟨g, k * 6, none⟩ = some (.int .i64 x.sn) := fun u => (u.h.cell hg1).trans x0
        have s1 : ∀ u : Under wr, u.x.cell? ⟨g, k * 6 + 1, none⟩ = some (.int .i64 x.at_) := fun u => (u.h.cell hg1).trans x1
        have s2 : ∀ u : Under wr, u.x.cell? ⟨g, k * 6 + 2, none⟩ = some (.slice (some ⟨gr, 0, none⟩) x.rs.length x.rs.length) := fun u => (u.h.cell hg1).trans x2
        have s3 : ∀ u : Under wr, u.x.cell? ⟨g, k * 6 + 3, none⟩ = some (.slice (some ⟨gc, 0, none⟩) x.cs.length x.cs.length) := fun u => (u.h.cell hg1).trans x3
        have s4 : ∀ u : Under wr, u.x.cell? ⟨g, k * 6 + 4, none⟩ = some (.bool x.di) := fun u => (u.h.cell hg1).trans x4
        have s5 : ∀ u : Under wr, u.x.cell? ⟨g, k * 6 + 5, none⟩ = some (.bool x.do_) := fun u => (u.h.cell hg1).trans x5
        clear x0 x1 x2 x3 x4 x5
        cases hD : dnB x
        · rw [hD] at HC
          have HF : Hid (R = false) := by show R = false; rw [HRK.out, hD]; cases decide (z < x.at_) <;> rfl
          clear hD HRK hlast HPOS
          go_wp2_with fail
          refine wp_region_under (by kernel_rfl) (by kernel_rfl) ?_
          repeat (go_big_quiet_step ((go_at_call 21; exact calls_under _ (HC.out _ (Under.h _)))))
          refine wpQuiet_nil ?_
          rintro _ ⟨u, rfl⟩
          have hbw := hbel.trans (u.h.mono hbel.size)
          go_wp2_with fail
          go_ret
          exact ⟨ret_bool' HF.out.symm, hbw⟩
        rw [hD] at HC
        have hpos := HPOS.out hD
        by_cases t1 : z < x.at_
        case neg =>
          have HF : Hid (R = false) := by show R = false; rw [HRK.out, decide_eq_false t1]; rfl
          rcases hlast with ⟨hk0, hz0⟩ | ⟨m, hkm, hcm⟩
          · omega
          have hkn : decide ((0 : Int) < (k : Int)) = true := decide_eq_true (by omega)
          have hkn2 : decide (0 < k) = true := decide_eq_true (by omega)
          have hks : (k : Int) - 1 = (m : Int) := by omega
          have hml : (m : Int) < (l.length : Int) := by omega
          have hzi' : decide (x.at_ ≤ z) = true := decide_eq_true (by omega)
          have r0 : ∀ u : Under wr, u.x.cell? ⟨g, m * 6 + 1, none⟩ = some (.int .i64 z) := fun u => (u.h.cell hg1).trans hcm
          clear hD HRK HPOS hkm hcm t1 hpos
          go_wp2_with fail
          refine wp_region_under (by kernel_rfl) (by kernel_rfl) ?_
          repeat (go_big_quiet_step ((go_at_call 21; exact calls_under _ (HC.out _ (Under.h _)))))
          refine wpQuiet_nil ?_
          rintro _ ⟨u, rfl⟩
          have hbw := hbel.trans (u.h.mono hbel.size)
          go_wp2_with fail
          go_ret
          exact ⟨ret_bool' HF.out.symm, hbw⟩
        have hzi' : decide (x.at_ ≤ z) = false := decide_eq_false (by omega)
        have hsplit : (decide ((0 : Int) < (k : Int)) = false ∧ decide (0 < k) = false) ∨ ∃ m : Nat, (decide ((0 : Int) < (k : Int)) = true ∧ decide (0 < k) = true) ∧ (k : Int) - 1 = (m : Int) ∧ (m : Int) < (l.length : Int) ∧ ∀ u : Under wr, u.x.cell? ⟨g, m * 6 + 1, none⟩ = some (.int .i64 z) := by
          rcases hlast with ⟨hk0, _⟩ | ⟨m, hkm, hcm⟩
          · exact .inl ⟨decide_eq_false (by omega), decide_eq_false (by omega)⟩
          · exact .inr ⟨m, ⟨decide_eq_true (by omega), decide_eq_true (by omega)⟩, by omega, by omega, fun u => (u.h.cell hg1).trans hcm⟩
        have hrk : R = ((!(x.di && x.do_) && riseB x.at_ (l.drop (k + 1))) && N) := by rw [HRK.out, hD, decide_eq_true t1]; rfl
        clear hlast HRK HPOS hD t1 hpos
        cases hi : x.di
        · rw [hi] at hrk s4 HC
          have HF : Hid (R = (riseB (lastD l (k + 1)) (l.drop (k + 1)) && N)) := by show R = _; rw [HLA.out, hrk]; rfl
          clear hrk hi
          rcases hsplit with ⟨hkn, hkn2⟩ | ⟨m, ⟨hkn, hkn2⟩, hks, hml, r0⟩
          all_goals
            go_wp2_with fail
            refine wp_region_under (by kernel_rfl) (by kernel_rfl) ?_
            repeat (go_big_quiet_step ((go_at_call 21; exact calls_under _ (HC.out _ (Under.h _)))))
            refine wpQuiet_nil ?_
            rintro _ ⟨u, rfl⟩
            have hbw := hbel.trans (u.h.mono hbel.size)
            go_wp2_with fail
            go_roundw
            case rel => exact ⟨k + 1, by omega, by go_num, HF.out, hbw⟩
            case measure => simp [intOf]; omega
        · cases hj : x.do_
          · rw [hi, hj] at hrk HC
            rw [hi] at s4
            rw [hj] at s5
            have HF : Hid (R = (riseB (lastD l (k + 1)) (l.drop (k + 1)) && N)) := by show R = _; rw [HLA.out, hrk]; rfl
            clear hrk hi hj
            rcases hsplit with ⟨hkn, hkn2⟩ | ⟨m, ⟨hkn, hkn2⟩, hks, hml, r0⟩
            all_goals
              go_wp2_with fail
              refine wp_region_under (by kernel_rfl) (by kernel_rfl) ?_
              repeat (go_big_quiet_step ((go_at_call 21; exact calls_under _ (HC.out _ (Under.h _)))))
              refine wpQuiet_nil ?_
              rintro _ ⟨u, rfl⟩
              have hbw := hbel.trans (u.h.mono hbel.size)
              go_wp2_with fail
              go_roundw
              case rel => exact ⟨k + 1, by omega, by go_num, HF.out, hbw⟩
              case measure => simp [intOf]; omega
          · rw [hi, hj] at hrk HC
            rw [hi] at s4
            rw [hj] at s5
            have HF : Hid (R = false) := by show R = _; rw [hrk]; rfl
            clear hrk hi hj
            rcases hsplit with ⟨hkn, hkn2⟩ | ⟨m, ⟨hkn, hkn2⟩, hks, hml, r0⟩
            all_goals
              go_wp2_with fail
              refine wp_region_under (by kernel_rfl) (by kernel_rfl) ?_
              repeat (go_big_quiet_step ((go_at_call 21; exact calls_under _ (HC.out _ (Under.h _)))))
              refine wpQuiet_nil ?_
              rintro _ ⟨u, rfl⟩
              have hbw := hbel.trans (u.h.mono hbel.size)
              go_wp2_with fail
              go_ret
              exact ⟨ret_bool' HF.out.symm, hbw⟩
    · have hlt2 : ¬ (k : Int) < (l.length : Int) := by omega
      rw [riseB_end _ l k (by omega), Bool.true_and, HNN.out] at hrk
      subst hrk
      by_cases h30 : l.length ≤ 30
      · have h31 : (l.length : Int) ≤ 30 := by omega
        rw [decide_eq_true h30]
        go_wp2_with fail
        go_ret
        exact ⟨by first | rfl | exact ret_bool' (by simp), hbel⟩
      · have h31 : ¬ (l.length : Int) ≤ 30 := by omega
        rw [decide_eq_false h30]
        go_wp2_with fail
        go_ret
        exact ⟨by first | rfl | exact ret_bool' (by simp), hbel⟩

end Go.Proofs.YtcggkeleaepebaaGreatDoor.Ce

/- Rows of numbers: what the laws' helpers on them answer; two numbers put behind them. -/
namespace Go.Proofs.YtcggkeleaepebaaGreatDoor.Ce
open Go.RowKit Tr
set_option linter.unusedVariables false

theorem growN_trans {a b c : World} {row : Option Nat} (h : a.grownBy b row) (k : b.grownBy c row) : a.grownBy c row :=
  ⟨k.os.trans h.os, k.tape.trans h.tape, k.output.trans h.output, Nat.le_trans h.size k.size, fun i hi hne => (k.block i (Nat.lt_of_lt_of_le hi h.size) hne).trans (h.block i hi hne)⟩
theorem growN_refl (a : World) (row : Option Nat) : a.grownBy a row := ⟨rfl, rfl, rfl, Nat.le_refl _, fun _ _ _ => rfl⟩
def intsV (l : List Int) : List Value := l.map fun z => .int .i64 z
def OwnI (w : World) (base : Nat) (v : Value) (l : List Int) : Prop := w.ownsRow base 3 1 v l.length (intsV l)
theorem infoZ : (Tryz.prog.info? 3).map (fun i => (i.zero, i.size, i.bytes)) = some (some (.int .i64 0), 1, 8) := by kernel_rfl
/-- A row of numbers at a block's head, a nil one too. -/
def InN (w : World) (a : Option Addr) (l : List Int) : Prop := l.length = 0 ∨ ∃ g, a = some ⟨g, 0, none⟩ ∧ g < w.heap.size ∧ ∀ i (h : i < l.length), w.cell? ⟨g, i, none⟩ = some (.int .i64 l[i])
theorem InN.step {w w' : World} {a : Option Addr} {l : List Int} (h : InN w a l) (hb : Below w.heap.size w w') : InN w' a l := by
  rcases h with h | ⟨g, ha, hlt, hc⟩
  · exact .inl h
  · exact .inr ⟨g, ha, Nat.lt_of_lt_of_le hlt hb.size, fun i hi => (hb.cell hlt).trans (hc i hi)⟩
theorem intsV_get (l : List Int) (i : Nat) (h : i < l.length) : (intsV l)[i]? = some (.int .i64 l[i]) := by unfold intsV; simp [List.getElem?_eq_getElem h]
theorem intsV_set (l : List Int) (i : Nat) (z : Int) : (intsV l).set i (.int .i64 z) = intsV (l.set i z) := by unfold intsV; rw [List.map_set]
theorem OwnI.form {w : World} {base : Nat} {v : Value} {l : List Int} (h : OwnI w base v l) : (v = .slice none 0 0 ∧ l = []) ∨ ∃ g cap, v = .slice (some ⟨g, 0, none⟩) l.length cap ∧ base ≤ g ∧ g < w.heap.size := by
  have hlt := World.ownsRow.lt h
  obtain ⟨h1, h2⟩ := h
  rcases h2 with ⟨h2, h3⟩ | ⟨g, cap, cur, hv, hg, hh, r⟩
  · exact .inl ⟨h2, List.length_eq_zero_iff.1 h3⟩
  · exact .inr ⟨g, cap, hv, hg, (hlt g (by rw [hv]; rfl)).2⟩
theorem OwnI.inN {w : World} {base : Nat} {v : Value} {l : List Int} (h : OwnI w base v l) : ∃ p cap, v = .slice p l.length cap ∧ InN w p l := by
  rcases h.form with ⟨rfl, rfl⟩ | ⟨g, cap, rfl, _, hg⟩
  · exact ⟨none, 0, rfl, .inl rfl⟩
  · exact ⟨_, cap, rfl, .inr ⟨g, rfl, hg, fun i hi => owns_cell h i _ (intsV_get l i hi)⟩⟩

def marksN (q n : Nat) : List Int := (List.range n).map fun i : Nat => (q : Int) + (i : Int)
theorem marksN_len (q n : Nat) : (marksN q n).length = n := by unfold marksN; simp
def markMixN (q : Nat) (l : List Int) (k : Nat) : List Int := marksN q k ++ l.drop k
theorem markMixN_len (q : Nat) (l : List Int) (k : Nat) (h : k ≤ l.length) : (markMixN q l k).length = l.length := by unfold markMixN; rw [List.length_append, marksN_len, List.length_drop]; omega
theorem markMixN_zero (q : Nat) (l : List Int) : markMixN q l 0 = l := by unfold markMixN marksN; simp
theorem markMixN_full (q : Nat) (l : List Int) : markMixN q l l.length = marksN q l.length := by unfold markMixN; simp
theorem markMixN_set (q : Nat) (l : List Int) (k : Nat) (h : k < l.length) : (markMixN q l k).set k ((q : Int) + (k : Int)) = markMixN q l (k + 1) := by
  unfold markMixN
  rw [List.set_append_right _ _ (by rw [marksN_len]; omega), marksN_len, Nat.sub_self]
  have e : marksN q (k + 1) = marksN q k ++ [(q : Int) + (k : Int)] := by unfold marksN; rw [List.range_succ, List.map_append]; rfl
  rw [e, List.append_assoc]
  congr 1
  rw [List.drop_eq_getElem_cons h]; rfl
theorem intsV_app (l : List Int) (x y : Int) : intsV (l ++ [x, y]) = intsV l ++ [.int .i64 x, .int .i64 y] := by unfold intsV; simp
theorem cellTwo (w : World) (a b : Value) (T : TypeId) : ∀ (j : Nat) (u : Value), [a, b][j]? = some u → (w.alloc (.cells #[a, b] T)).cell? ((⟨w.heap.size, 0, none⟩ : Addr).add j) = some u := by
  intro j u hj
  match j, hj with
  | 0, hj => simp at hj; subst hj; simp [Addr.add, go_sem]
  | 1, hj => simp at hj; subst hj; simp [Addr.add, go_sem]
  | j + 2, hj => simp at hj
/-- Two numbers behind a row of the call's own. -/
theorem appTwoI {ops : Array Oper} {rest : List Oper} {o : Oper} {a : Act} {Q : Exit → Act → World → Prop} {w : World} (hgd : o.guard = none) (s x : Operand)
    (ho : o.op = .call { callee := .builtin .append, args := #[s, x], argTypes := #[236, 236] }) (B : Nat) (v : Value) (l : List Int) (c c' : Int)
    (ad : Nat) (hs : a.eval s = v) (hx : a.eval x = .slice (some ⟨ad, 0, none⟩) 2 2) (had : ad = w.heap.size) (hown : OwnI w B v l) (hB : B ≤ w.heap.size) (hlim : l.length ≤ 1000000)
    (h : ∀ v' w', OwnI w' B v' (l ++ [c, c']) → Below B w w' → wpList Tryz.prog ops Q rest (a.put o.dst v') w') :
    wpList Tryz.prog ops Q (o :: rest) a (w.alloc (.cells #[.int .i64 c, .int .i64 c'] 3)) := by
  subst had
  obtain ⟨i0, hi, hz0, hz1, hz2⟩ := info_parts infoZ
  refine wpList_append_own _ hgd s x 236 ho B 3 i0 (.int .i64 0) 1 8 Tryz.underlying236 hi hz0 hz1 hz2 rfl (by decide) _ _ _ hs (World.ownsRow.alloc hown _) ⟨w.heap.size, 0, none⟩ 2 2 [.int .i64 c, .int .i64 c'] hx rfl (cellTwo _ _ _ _) (by intro u hu; simp at hu; rcases hu with rfl | rfl <;> rfl) (by unfold maxLen; omega) (by omega) (by simp; omega) ?_
  intro v' w' hown' hgrow _
  have ha : Below B w (w.alloc (.cells #[.int .i64 c, .int .i64 c'] 3)) := (Below.refl _ _).alloc hB _
  refine h v' w' ?_ (Below.grown ha hgrow (by simp; omega) (fun k hk => (World.ownsRow.lt hown k hk).1))
  unfold OwnI
  rw [intsV_app, List.length_append]
  exact hown'
theorem appTwoIn {F : Fence} {n : Nat} {ops : Array Oper} {rest : List Oper} {o : Oper} {a : Act} {Q : Exit → Act → World → Prop} {w : World} (hgd : o.guard = none) (s x : Operand)
    (ho : o.op = .call { callee := .builtin .append, args := #[s, x], argTypes := #[236, 236] }) (B : Nat) (v : Value) (l : List Int) (c c' : Int)
    (ad : Nat) (hs : a.eval s = v) (hx : a.eval x = .slice (some ⟨ad, 0, none⟩) 2 2) (had : ad = w.heap.size) (hown : OwnI w B v l) (hB : B ≤ w.heap.size) (hlim : l.length ≤ 1000000)
    (h : ∀ v' w', OwnI w' B v' (l ++ [c, c']) → (w.alloc (.cells #[.int .i64 c, .int .i64 c'] 3)).grownBy w' v.ownBlock → wpListIn F n Tryz.prog ops Q rest (a.put o.dst v') w') :
    wpListIn F n Tryz.prog ops Q (o :: rest) a (w.alloc (.cells #[.int .i64 c, .int .i64 c'] 3)) := by
  subst had
  obtain ⟨i0, hi, hz0, hz1, hz2⟩ := info_parts infoZ
  refine wpListIn_append_own _ hgd s x 236 ho B 3 i0 (.int .i64 0) 1 8 Tryz.underlying236 hi hz0 hz1 hz2 rfl (by decide) _ _ _ hs (World.ownsRow.alloc hown _) ⟨w.heap.size, 0, none⟩ 2 2 [.int .i64 c, .int .i64 c'] hx rfl (cellTwo _ _ _ _) (by intro u hu; simp at hu; rcases hu with rfl | rfl <;> rfl) (by unfold maxLen; omega) (by omega) (by simp; omega) ?_
  intro v' w' hown' hgrow _
  refine h v' w' ?_ hgrow
  unfold OwnI
  rw [intsV_app, List.length_append]
  exact hown'

end Go.Proofs.YtcggkeleaepebaaGreatDoor.Ce

/- Which places EdgesOf tells. -/
namespace Go.Proofs.YtcggkeleaepebaaGreatDoor.Ce
open Go.RowKit Tr Co Rea
set_option linter.unusedVariables false

theorem dn_parts (x : Dn) (h : dnB x = true) : x.rs.length ≤ 1048576 ∧ x.cs.length ≤ 1048576 ∧ (∀ v ∈ x.rs, okR v = true) ∧ ∀ v ∈ x.cs, okCg v = true := by
  unfold dnB doneB listsB at h
  simp only [Bool.and_eq_true, decide_eq_true_eq] at h
  obtain ⟨_, _, h1, h2, h3, h4⟩ := h
  refine ⟨by omega, by omega, List.all_eq_true.1 h1, ?_⟩
  have h5 := lstB_from x.cs x.cs.length 0 (by omega)
  rw [List.take_zero, List.drop_zero] at h5
  intro v hv
  obtain ⟨i, hi, rfl⟩ := List.mem_iff_getElem.1 hv
  exact ((h5.1 h2) i hi (Nat.zero_le _)).1
theorem riseB_all : ∀ (z : Int) (l : List Dn), riseB z l = true → ∀ x ∈ l, dnB x = true
  | _, [], _, x, hx => by simp at hx
  | z, a :: t, h, x, hx => by
    unfold riseB at h
    simp only [Bool.and_eq_true] at h
    rcases List.mem_cons.mp hx with rfl | hx
    · exact h.2.1
    · exact riseB_all a.at_ t h.2.2.2 x hx
theorem dones_parts (l : List Dn) (h : donesB l = true) : l.length ≤ 30 ∧ ∀ x ∈ l, dnB x = true := by
  unfold donesB at h
  simp only [Bool.and_eq_true, decide_eq_true_eq] at h
  exact ⟨h.2, riseB_all 0 l h.1⟩
def aheadD (a b : Dn) : Bool := aheadB a.sn a.at_ b.sn b.at_ a.rs b.cs
/-- The one at a place must come ahead of the one at another place. -/
def edgeP (l : List Dn) (i j : Nat) : Bool := match l[i]?, l[j]? with | some a, some b => aheadD a b | _, _ => false
theorem edgeP_at (l : List Dn) (k : Nat) (hk : k < l.length) (q : Nat) (hq : q < l.length) : edgeP l k q = aheadD l[k] l[q] := by
  simp [edgeP, List.getElem?_eq_getElem hk, List.getElem?_eq_getElem hq]
def otherP (l : List Dn) (i j : Nat) : Bool := (i != j) && edgeP l i j
theorem upTo_other (l : List Dn) (m k q : Nat) : (upTo m (edgeP l) k q).filter (fun x => x.1 != x.2) = upTo m (otherP l) k q := by
  unfold upTo
  rw [List.filter_append, List.filter_flatMap, List.filter_map, List.filter_filter]
  congr 1
  · congr 1
    funext i
    rw [List.filter_map, List.filter_filter]
    rfl
def pairI (x : Nat × Nat) : List Int := [(x.1 : Int), (x.2 : Int)]
def intsP (ps : List (Nat × Nat)) : List Int := ps.flatMap pairI
theorem intsP_add (ps : List (Nat × Nat)) (k q : Nat) : intsP (ps ++ [(k, q)]) = intsP ps ++ [(k : Int), (q : Int)] := by simp [intsP, pairI]
theorem intsP_len : ∀ ps : List (Nat × Nat), (intsP ps).length = 2 * ps.length
  | [] => rfl
  | a :: t => by
    have := intsP_len t
    unfold intsP at this ⊢
    rw [List.flatMap_cons, List.length_append, this]
    simp [pairI]; omega
/-- What EdgesOf tells. -/
def edgL (l : List Dn) : List Int := if donesB l = true then intsP (upTo l.length (otherP l) l.length 0) else []
def edgC (l : List Dn) : Int := if 4096 < l.length then 2 else if donesB l = true then 0 else 1
theorem other_len (l : List Dn) (h : l.length ≤ 30) (k q : Nat) (hk : k ≤ l.length) (hq : q ≤ l.length) : (intsP (upTo l.length (otherP l) k q)).length ≤ 2000 := by
  rw [intsP_len]
  have h1 := upTo_length l.length (otherP l) k q
  have h2 : k * l.length ≤ 30 * 30 := Nat.mul_le_mul (by omega) h
  omega
theorem edgL_len (l : List Dn) : (edgL l).length ≤ 2000 := by
  unfold edgL
  cases h : donesB l
  · simp
  · rw [if_pos rfl]
    exact other_len l (dones_parts l h).1 _ _ (Nat.le_refl _) (Nat.zero_le _)
/-- What an answer of EdgesOf is. -/
def EdR (l : List Dn) (w : World) (e : Ending) (w' : World) : Prop := (∃ v, e = .returned (.tuple #[v, .int .i64 (edgC l)]) ∧ OwnI w' w.heap.size v (edgL l)) ∧ Below w.heap.size w w'
theorem OwnI.nil (w : World) (base : Nat) : OwnI w base (.slice none 0 0) [] := ⟨rfl, .inl ⟨rfl, rfl⟩⟩
theorem OwnI.made (w : World) (base : Nat) (h : base ≤ w.heap.size) : OwnI (w.alloc (.cells #[] 3)) base (.slice (some ⟨w.heap.size, 0, none⟩) 0 0) [] :=
  World.ownsRow_made (size := 1) (e := 3) w #[] 0 h (by unfold maxLen; omega) rfl

end Go.Proofs.YtcggkeleaepebaaGreatDoor.Ce
