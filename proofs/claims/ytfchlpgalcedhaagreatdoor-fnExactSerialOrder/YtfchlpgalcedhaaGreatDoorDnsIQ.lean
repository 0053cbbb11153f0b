/- Whether lists of committed ones are right: both answers. -/
import Derived.Test.YtfchlpgalcedhaaGreatDoorDnsRQ
import Derived.Test.YtfchlpgalcedhaaGreatDoorFiltMQ
import Derived.Test.YtfchlpgalcedhaaGreatDoorTrMQ
import Derived.OwnWalkIn
import Derived.Test.YtfchlpgalcedhaaGreatDoorTwcIQ
import Derived.WalkMore
import Derived.RangeFuncBox
import Derived.RangeFuncNested
import Derived.RangeFuncFrom
namespace Go.Proofs.YtfchlpgalcedhaaGreatDoor.Ce
open Go.RowKit Go.ChangeShapes Go.WideShapes Go.ChangeAt Go.Joins Tr Co Rea
set_option linter.unusedVariables false

def dnB (x : Dn) : Bool := doneB x.sn x.at_ x.rs x.cs
/-- They rise by their times, and none is a pivot. -/
def riseB (z : Int) : List Dn → Bool
  | [] => true
  | x :: l => decide (z < x.at_) && (dnB x && (!(x.di && x.do_) && riseB x.at_ l))
def lastD (l : List Dn) (k : Nat) : Int := if k = 0 then 0 else (l[k - 1]?.map (·.at_)).getD 0
def donesB (l : List Dn) : Bool := riseB 0 l && decide (l.length ≤ 30)
theorem riseB_step (z : Int) (l : List Dn) (k : Nat) (h : k < l.length) : riseB z (l.drop k) = (decide (z < l[k].at_) && (dnB l[k] && (!(l[k].di && l[k].do_) && riseB l[k].at_ (l.drop (k + 1))))) := by
  rw [List.drop_eq_getElem_cons h]; rfl
theorem riseB_end (z : Int) (l : List Dn) (k : Nat) (h : l.length ≤ k) : riseB z (l.drop k) = true := by
  rw [List.drop_of_length_le h]; rfl
theorem lastD_succ (l : List Dn) (k : Nat) (h : k < l.length) : lastD l (k + 1) = l[k].at_ := by
  simp [lastD, List.getElem?_eq_getElem h]
theorem dnB_pos (x : Dn) (h : dnB x = true) : 0 < x.at_ := by
  unfold dnB doneB at h
  simp only [Bool.and_eq_true, decide_eq_true_eq] at h
  omega

/-- They rise by their times, whoever is a pivot. -/
def rizB (z : Int) : List Dn → Bool
  | [] => true
  | x :: l => decide (z < x.at_) && (dnB x && rizB x.at_ l)
def pvB (x : Dn) : Bool := x.di && x.do_
theorem rizB_step (z : Int) (l : List Dn) (k : Nat) (h : k < l.length) : rizB z (l.drop k) = (decide (z < l[k].at_) && (dnB l[k] && rizB l[k].at_ (l.drop (k + 1)))) := by
  rw [List.drop_eq_getElem_cons h]; rfl
theorem rizB_end (z : Int) (l : List Dn) (k : Nat) (h : l.length ≤ k) : rizB z (l.drop k) = true := by
  rw [List.drop_of_length_le h]; rfl
theorem riseB_parts (z : Int) (l : List Dn) : riseB z l = (rizB z l && l.all fun x => !(pvB x)) := by
  induction l generalizing z with
  | nil => rfl
  | cons x l ih =>
    simp only [riseB, rizB, List.all_cons, ih, pvB]
    cases decide (z < x.at_) <;> cases dnB x <;> cases x.di <;> cases x.do_ <;> cases rizB x.at_ l <;> rfl

set_option maxRecDepth 8000 in
set_option maxHeartbeats 4000000 in
theorem donesRise_any (g c b1 : Nat) (l : List Dn) (w : World) (h1 : MadeDn w b1 g l) (hlen : l.length ≤ 1048576) (hs : ∀ v ∈ l, szDn v) :
    Calls Tryz.prog 17 #[.slice (some ⟨g, 0, none⟩) l.length c] w fun e w' => e = .returned (.bool (rizB 0 l)) ∧ Below w.heap.size w w' := by
  have H1 : Hid (MadeDn _ _ _ _) := h1
  have HS : Hid (∀ v ∈ l, szDn v) := hs
  clear h1 hs
  obtain ⟨R, hR⟩ : ∃ R, R = rizB 0 l := ⟨_, rfl⟩
  rw [← hR]
  have HR : Hid (R = rizB 0 (l.drop 0)) := hR
  clear hR
  go_enter Tryz.func17, Tryz.ntmps17
  go_wp2_with fail
  go_loopw [3, 8] (fun z i wr => ∃ (k : Nat) (y : Int), k ≤ l.length ∧ i = .int .i64 k ∧ z = .int .i64 y ∧ R = rizB y (l.drop k) ∧ Below w.heap.size w wr) (fun _ i _ => l.length - (intOf i).toNat)
  case atStart => exact ⟨0, 0, Nat.zero_le _, rfl, rfl, HR.out, Below.refl _ _⟩
  case round =>
    obtain ⟨k, z, hk, rfl, rfl, hrk, hbel⟩ := hrel
    clear HR
    by_cases hlt : k < l.length
    · have hlt2 : (k : Int) < (l.length : Int) := by omega
      have R1 := H1.out.next hbel
      obtain ⟨gr, gc, ⟨x0, x1, x2, x3, x4, x5⟩, u0, u1, u2⟩ := R1.cells k hlt
      have hg1 := R1.lt
      have hsk := HS.out l[k] (List.getElem_mem _)
      rw [rizB_step z l k hlt] at hrk
      obtain ⟨x, hx⟩ : ∃ x, x = l[k] := ⟨_, rfl⟩
      rw [← hx] at x0 x1 x2 x3 x4 x5 u0 u1 hsk hrk
      have X0 := BxDn.start wr (.int .i64 x.sn) (.int .i64 x.at_) (.slice (some ⟨gr, 0, none⟩) x.rs.length x.rs.length) (.slice (some ⟨gc, 0, none⟩) x.cs.length x.cs.length) (.bool x.di) (.bool x.do_) 45
      have HC : Hid (Calls _ _ _ _ _) := doneOK_any x.sn x.at_ gr gc x.rs.length x.cs.length b1 x.di x.do_ x.rs x.cs (wr.alloc (.cells #[.int .i64 x.sn, .int .i64 x.at_, .slice (some ⟨gr, 0, none⟩) x.rs.length x.rs.length, .slice (some ⟨gc, 0, none⟩) x.cs.length x.cs.length, .bool x.di, .bool x.do_] 45)) (u0.next X0.bel) (u1.next X0.bel) hsk.r0 hsk.s0 hsk.r1 hsk.s1
      have hdb : doneB x.sn x.at_ x.rs x.cs = dnB x := rfl
      rw [hdb] at HC
      have HRK : Hid (R = _) := hrk
      clear hdb hx R1 u0 u1 u2 hsk hrk
      by_cases t1 : z < x.at_
      case neg =>
        have t2 : x.at_ ≤ z := by omega
        have HF : Hid (R = false) := by show R = false; rw [HRK.out, decide_eq_false t1, Bool.false_and]
        have hbw := hbel.trans (X0.bel.mono hbel.size)
        clear HC X0 HRK
        go_wp2_with fail
        go_ret
        exact ⟨by rw [HF.out]; rfl, hbw⟩
      have t2 : ¬ x.at_ ≤ z := by omega
      cases hD : dnB x
      · rw [hD] at HC
        have HF : Hid (R = false) := by show R = false; rw [HRK.out, hD, Bool.false_and, Bool.and_false]
        clear hD HRK
        go_wp2_with fail
        refine HC.out.mono ?_
        rintro e w1 ⟨rfl, hb⟩
        have hbw := hbel.trans ((X0.step hb).bel.mono hbel.size)
        clear hb X0 HC
        go_wp2_with fail
        go_ret
        exact ⟨by rw [HF.out]; rfl, hbw⟩
      rw [hD] at HC
      have HF : Hid (R = rizB x.at_ (l.drop (k + 1))) := by show R = _; rw [HRK.out, hD, decide_eq_true t1]; rfl
      clear hD HRK
      go_wp2_with fail
      refine HC.out.mono ?_
      rintro e w1 ⟨rfl, hb⟩
      have X1 := X0.step hb
      have z1 := X1.c1
      have hbw := hbel.trans (X1.bel.mono hbel.size)
      clear hb X0 HC x0 x1 x2 x3 x4 x5
      go_wp2_with fail
      go_roundw
      case rel => exact ⟨k + 1, x.at_, by omega, by go_num, rfl, HF.out, hbw⟩
      case measure => simp [intOf]; omega
    · have hlt2 : ¬ (k : Int) < (l.length : Int) := by omega
      rw [rizB_end z l k (by omega)] at hrk
      subst hrk
      go_wp2_with fail
      go_ret
      exact ⟨rfl, hbel⟩

end Go.Proofs.YtfchlpgalcedhaaGreatDoor.Ce

/- Rows of numbers: what the laws' helpers on them answer; two numbers put behind them. -/
namespace Go.Proofs.YtfchlpgalcedhaaGreatDoor.Ce
open Go.RowKit Tr
set_option linter.unusedVariables false

theorem growN_trans {a b c : World} {row : Option Nat} (h : a.grownBy b row) (k : b.grownBy c row) : a.grownBy c row :=
  ⟨k.os.trans h.os, k.tape.trans h.tape, k.output.trans h.output, Nat.le_trans h.size k.size, fun i hi hne => (k.block i (Nat.lt_of_lt_of_le hi h.size) hne).trans (h.block i hi hne)⟩
theorem growN_refl (a : World) (row : Option Nat) : a.grownBy a row := ⟨rfl, rfl, rfl, Nat.le_refl _, fun _ _ _ => rfl⟩
def intsV (l : List Int) : List Value := l.map fun z => .int .i64 z
def OwnI (w : World) (base : Nat) (v : Value) (l : List Int) : Prop := w.ownsRow base 3 1 v l.length (intsV l)
theorem infoZ : (Tryz.prog.info? 3).map (fun i => (i.zero, i.size, i.bytes)) = some (some (.int .i64 0), 1, 8) := by kernel_rfl
/-- A row of numbers at a block's head, a nil one too. -/
def InN (w : World) (a : Option Addr) (l : List Int) : Prop := l.length = 0 ∨ ∃ g, a = some ⟨g, 0, none⟩ ∧ g < w.heap.size ∧ ∀ i (h : i < l.length), w.cell? ⟨g, i, none⟩ = some (.int .i64 l[i])
theorem InN.step {w w' : World} {a : Option Addr} {l : List Int} (h : InN w a l) (hb : Below w.heap.size w w') : InN w' a l := by
  rcases h with h | ⟨g, ha, hlt, hc⟩
  · exact .inl h
  · exact .inr ⟨g, ha, Nat.lt_of_lt_of_le hlt hb.size, fun i hi => (hb.cell hlt).trans (hc i hi)⟩
theorem intsV_get (l : List Int) (i : Nat) (h : i < l.length) : (intsV l)[i]? = some (.int .i64 l[i]) := by unfold intsV; simp [List.getElem?_eq_getElem h]
theorem intsV_set (l : List Int) (i : Nat) (z : Int) : (intsV l).set i (.int .i64 z) = intsV (l.set i z) := by unfold intsV; rw [List.map_set]
theorem OwnI.form {w : World} {base : Nat} {v : Value} {l : List Int} (h : OwnI w base v l) : (v = .slice none 0 0 ∧ l = []) ∨ ∃ g cap, v = .slice (some ⟨g, 0, none⟩) l.length cap ∧ base ≤ g ∧ g < w.heap.size := by
  have hlt := World.ownsRow.lt h
  obtain ⟨h1, h2⟩ := h
  rcases h2 with ⟨h2, h3⟩ | ⟨g, cap, cur, hv, hg, hh, r⟩
  · exact .inl ⟨h2, List.length_eq_zero_iff.1 h3⟩
  · exact .inr ⟨g, cap, hv, hg, (hlt g (by rw [hv]; rfl)).2⟩
theorem OwnI.inN {w : World} {base : Nat} {v : Value} {l : List Int} (h : OwnI w base v l) : ∃ p cap, v = .slice p l.length cap ∧ InN w p l := by
  rcases h.form with ⟨rfl, rfl⟩ | ⟨g, cap, rfl, _, hg⟩
  · exact ⟨none, 0, rfl, .inl rfl⟩
  · exact ⟨_, cap, rfl, .inr ⟨g, rfl, hg, fun i hi => owns_cell h i _ (intsV_get l i hi)⟩⟩

set_option maxRecDepth 4000 in
set_option maxHeartbeats 1000000 in
theorem eqIntS_same (p1 p2 : Option Addr) (c1 c2 : Nat) (l : List Int) (w : World) (h1 : InN w p1 l) (h2 : InN w p2 l) (hlen : l.length ≤ 1048576) :
    Calls Tryz.prog 8 #[.slice p1 l.length c1, .slice p2 l.length c2] w fun e w' => e = .returned (.bool true) ∧ Below w.heap.size w w' := by
  have H1 : Hid (InN _ _ _) := h1
  have H2 : Hid (InN _ _ _) := h2
  clear h1 h2
  go_enter Tryz.func8, Tryz.ntmps8
  go_wp2_with fail
  go_loopw [5] (fun i wr => ∃ k : Nat, k ≤ l.length ∧ i = .int .i64 k ∧ Below w.heap.size w wr) (fun i _ => l.length - (intOf i).toNat)
  case atStart => exact ⟨0, Nat.zero_le _, rfl, Below.refl _ _⟩
  case round =>
    obtain ⟨k, hk, rfl, hbel⟩ := hrel
    by_cases hlt : k < l.length
    · rcases H1.out.step hbel with h0 | ⟨g1, rfl, l1, x1⟩
      · omega
      rcases H2.out.step hbel with h0 | ⟨g2, rfl, l2, x2⟩
      · omega
      have hk1 : (k : Int) < (l.length : Int) := by omega
      have q0 : ∀ u : Under wr, u.x.cell? ⟨g1, k, none⟩ = some (.int .i64 l[k]) := fun u => (u.h.cell l1).trans (x1 k hlt)
      have r0 : ∀ u : Under wr, u.x.cell? ⟨g2, k, none⟩ = some (.int .i64 l[k]) := fun u => (u.h.cell l2).trans (x2 k hlt)
      have hnu : Nonempty (Under wr) := ⟨⟨wr, Below.refl _ _⟩⟩
      clear x1 x2
      go_wp2_with fail
      refine wp_region_under (by kernel_rfl) (by kernel_rfl) ?_
      repeat (go_big_quiet_step (fail))
      refine wpQuiet_nil ?_
      rintro _ ⟨u, rfl⟩
      go_wp2_with fail
      go_roundw
      case rel => exact ⟨k + 1, by omega, by go_num, hbel.trans (u.h.mono hbel.size)⟩
      case measure => simp [intOf]; omega
    · have hlt2 : ¬ (k : Int) < (l.length : Int) := by omega
      go_wp2_with fail
      go_ret
      exact ⟨rfl, hbel⟩

def marksN (q n : Nat) : List Int := (List.range n).map fun i : Nat => (q : Int) + (i : Int)
theorem marksN_len (q n : Nat) : (marksN q n).length = n := by unfold marksN; simp
def markMixN (q : Nat) (l : List Int) (k : Nat) : List Int := marksN q k ++ l.drop k
theorem markMixN_len (q : Nat) (l : List Int) (k : Nat) (h : k ≤ l.length) : (markMixN q l k).length = l.length := by unfold markMixN; rw [List.length_append, marksN_len, List.length_drop]; omega
theorem markMixN_zero (q : Nat) (l : List Int) : markMixN q l 0 = l := by unfold markMixN marksN; simp
theorem markMixN_full (q : Nat) (l : List Int) : markMixN q l l.length = marksN q l.length := by unfold markMixN; simp
theorem markMixN_set (q : Nat) (l : List Int) (k : Nat) (h : k < l.length) : (markMixN q l k).set k ((q : Int) + (k : Int)) = markMixN q l (k + 1) := by
  unfold markMixN
  rw [List.set_append_right _ _ (by rw [marksN_len]; omega), marksN_len, Nat.sub_self]
  have e : marksN q (k + 1) = marksN q k ++ [(q : Int) + (k : Int)] := by unfold marksN; rw [List.range_succ, List.map_append]; rfl
  rw [e, List.append_assoc]
  congr 1
  rw [List.drop_eq_getElem_cons h]; rfl
set_option maxRecDepth 4000 in
set_option maxHeartbeats 2000000 in
theorem markIntS_any (base : Nat) (v : Value) (l : List Int) (q : Nat) (w : World) (hown : OwnI w base v l) (hq : q ≤ 1048576) (hl : l.length ≤ 1048576) :
    Calls Tryz.prog 11 #[v, .int .i64 q] w fun e w' => e = .returned (.int .i64 ((q + l.length : Nat) : Int)) ∧ OwnI w' base v (marksN q l.length) ∧ w.grownBy w' v.ownBlock := by
  rcases hown.form with ⟨rfl, rfl⟩ | ⟨g, c, rfl, hgb, hgl⟩
  · have HO0 : Hid (OwnI _ _ _ _) := hown
    clear hown
    go_enter Tryz.func11, Tryz.ntmps11
    go_wp2_with fail
    refine wp_loop_rounds 1 ?_
    rw [rounds_succ]
    go_wp2_with fail
    go_ret
    exact ⟨rfl, HO0.out, growN_refl _ _⟩
  · have HO0 : Hid (OwnI _ _ _ _) := hown
    clear hown
    go_enter Tryz.func11, Tryz.ntmps11
    go_wp2_with fail
    go_loopw [1, 5] (fun x i wr => ∃ k : Nat, k ≤ l.length ∧ i = .int .i64 k ∧ x = .int .i64 ((q + k : Nat) : Int) ∧ wr.ownsRow base 3 1 (.slice (some ⟨g, 0, none⟩) l.length c) l.length (intsV (markMixN q l k)) ∧ w.grownBy wr (some g)) (fun _ i _ => l.length - (intOf i).toNat)
    case atStart => exact ⟨0, Nat.zero_le _, rfl, rfl, by rw [markMixN_zero]; exact HO0.out, growN_refl _ _⟩
    case round =>
      obtain ⟨k, hk, rfl, rfl, hown, hgr⟩ := hrel
      have HB : Hid (World.grownBy _ _ _) := hgr
      clear hgr HO0
      by_cases hlt : k < l.length
      · have hlt2 : (k : Int) < (l.length : Int) := by omega
        obtain ⟨z0, y0⟩ := Tr.own_there hown k (by omega)
        have f0 := World.ownsRow.frozenAt hown k
        have hst := (World.ownsRow.stored hown k (.int .i64 ((q : Int) + (k : Int)))).1
        rw [intsV_set, markMixN_set q l k hlt] at hst
        have HS : Hid (World.ownsRow _ _ _ _ _ _ _) := hst
        have hglr : g < wr.heap.size := (hown.lt g rfl).2
        clear hst hown
        go_wp2_with fail
        go_roundw
        case rel => exact ⟨k + 1, by omega, by go_num, by go_num, HS.out, growN_trans HB.out grown_set⟩
        case measure => simp [intOf]; omega
      · obtain rfl : k = l.length := by omega
        rw [markMixN_full] at hown
        have HO : Hid (World.ownsRow _ _ _ _ _ _ _) := hown
        clear hown
        go_wp2_with fail
        go_ret
        exact ⟨rfl, by unfold OwnI; rw [marksN_len]; exact HO.out, HB.out⟩
set_option maxRecDepth 4000 in
set_option maxHeartbeats 2000000 in
theorem heldIntS_any (a : Option Addr) (c n : Nat) (q : Nat) (w : World) (hr : InN w a (marksN q n)) (hq : q ≤ 1048576) (hl : n ≤ 1048576) :
    Calls Tryz.prog 12 #[.slice a n c, .int .i64 q] w fun e w' => e = .returned (.int .i64 ((q + n : Nat) : Int)) ∧ Below w.heap.size w w' := by
  have HR : Hid (InN _ _ _) := hr
  clear hr
  go_enter Tryz.func12, Tryz.ntmps12
  go_wp2_with fail
  go_loopw [1, 5] (fun x i wr => ∃ k : Nat, k ≤ n ∧ i = .int .i64 k ∧ x = .int .i64 ((q + k : Nat) : Int) ∧ Below w.heap.size w wr) (fun _ i _ => n - (intOf i).toNat)
  case atStart => exact ⟨0, Nat.zero_le _, rfl, rfl, Below.refl _ _⟩
  case round =>
    obtain ⟨k, hk, rfl, rfl, hbel⟩ := hrel
    by_cases hlt : k < n
    · rcases HR.out.step hbel with h0 | ⟨g, rfl, l1, x⟩
      · rw [marksN_len] at h0; omega
      have x0 := x k (by rw [marksN_len]; exact hlt)
      rw [show (marksN q n)[k]'(by rw [marksN_len]; exact hlt) = (q : Int) + (k : Int) by simp [marksN]] at x0
      have hk1 : (k : Int) < (n : Int) := by omega
      clear x
      go_wp2_with fail
      go_roundw
      case rel => exact ⟨k + 1, by omega, by go_num, by go_num, hbel⟩
      case measure => simp [intOf]; omega
    · obtain rfl : k = n := by omega
      go_wp2_with fail
      go_ret
      exact ⟨rfl, hbel⟩


theorem intsV_app (l : List Int) (x y : Int) : intsV (l ++ [x, y]) = intsV l ++ [.int .i64 x, .int .i64 y] := by unfold intsV; simp
theorem cellTwo (w : World) (a b : Value) (T : TypeId) : ∀ (j : Nat) (u : Value), [a, b][j]? = some u → (w.alloc (.cells #[a, b] T)).cell? ((⟨w.heap.size, 0, none⟩ : Addr).add j) = some u := by
  intro j u hj
  match j, hj with
  | 0, hj => simp at hj; subst hj; simp [Addr.add, go_sem]
  | 1, hj => simp at hj; subst hj; simp [Addr.add, go_sem]
  | j + 2, hj => simp at hj
/-- Two numbers behind a row of the call's own. -/
theorem appTwoI {ops : Array Oper} {rest : List Oper} {o : Oper} {a : Act} {Q : Exit → Act → World → Prop} {w : World} (hgd : o.guard = none) (s x : Operand)
    (ho : o.op = .call { callee := .builtin .append, args := #[s, x], argTypes := #[24, 24] }) (B : Nat) (v : Value) (l : List Int) (c c' : Int)
    (ad : Nat) (hs : a.eval s = v) (hx : a.eval x = .slice (some ⟨ad, 0, none⟩) 2 2) (had : ad = w.heap.size) (hown : OwnI w B v l) (hB : B ≤ w.heap.size) (hlim : l.length ≤ 1000000)
    (h : ∀ v' w', OwnI w' B v' (l ++ [c, c']) → Below B w w' → wpList Tryz.prog ops Q rest (a.put o.dst v') w') :
    wpList Tryz.prog ops Q (o :: rest) a (w.alloc (.cells #[.int .i64 c, .int .i64 c'] 3)) := by
  subst had
  obtain ⟨i0, hi, hz0, hz1, hz2⟩ := info_parts infoZ
  refine wpList_append_own _ hgd s x 24 ho B 3 i0 (.int .i64 0) 1 8 Tryz.underlying24 hi hz0 hz1 hz2 rfl (by decide) _ _ _ hs (World.ownsRow.alloc hown _) ⟨w.heap.size, 0, none⟩ 2 2 [.int .i64 c, .int .i64 c'] hx rfl (cellTwo _ _ _ _) (by intro u hu; simp at hu; rcases hu with rfl | rfl <;> rfl) (by unfold maxLen; omega) (by omega) (by simp; omega) ?_
  intro v' w' hown' hgrow _
  have ha : Below B w (w.alloc (.cells #[.int .i64 c, .int .i64 c'] 3)) := (Below.refl _ _).alloc hB _
  refine h v' w' ?_ (Below.grown ha hgrow (by simp; omega) (fun k hk => (World.ownsRow.lt hown k hk).1))
  unfold OwnI
  rw [intsV_app, List.length_append]
  exact hown'
theorem appTwoIn {F : Fence} {n : Nat} {ops : Array Oper} {rest : List Oper} {o : Oper} {a : Act} {Q : Exit → Act → World → Prop} {w : World} (hgd : o.guard = none) (s x : Operand)
    (ho : o.op = .call { callee := .builtin .append, args := #[s, x], argTypes := #[24, 24] }) (B : Nat) (v : Value) (l : List Int) (c c' : Int)
    (ad : Nat) (hs : a.eval s = v) (hx : a.eval x = .slice (some ⟨ad, 0, none⟩) 2 2) (had : ad = w.heap.size) (hown : OwnI w B v l) (hB : B ≤ w.heap.size) (hlim : l.length ≤ 1000000)
    (h : ∀ v' w', OwnI w' B v' (l ++ [c, c']) → (w.alloc (.cells #[.int .i64 c, .int .i64 c'] 3)).grownBy w' v.ownBlock → wpListIn F n Tryz.prog ops Q rest (a.put o.dst v') w') :
    wpListIn F n Tryz.prog ops Q (o :: rest) a (w.alloc (.cells #[.int .i64 c, .int .i64 c'] 3)) := by
  subst had
  obtain ⟨i0, hi, hz0, hz1, hz2⟩ := info_parts infoZ
  refine wpListIn_append_own _ hgd s x 24 ho B 3 i0 (.int .i64 0) 1 8 Tryz.underlying24 hi hz0 hz1 hz2 rfl (by decide) _ _ _ hs (World.ownsRow.alloc hown _) ⟨w.heap.size, 0, none⟩ 2 2 [.int .i64 c, .int .i64 c'] hx rfl (cellTwo _ _ _ _) (by intro u hu; simp at hu; rcases hu with rfl | rfl <;> rfl) (by unfold maxLen; omega) (by omega) (by simp; omega) ?_
  intro v' w' hown' hgrow _
  refine h v' w' ?_ hgrow
  unfold OwnI
  rw [intsV_app, List.length_append]
  exact hown'

end Go.Proofs.YtfchlpgalcedhaaGreatDoor.Ce

/- Which places EdgesOf tells. -/
namespace Go.Proofs.YtfchlpgalcedhaaGreatDoor.Ce
open Go.RowKit Tr Co Rea
set_option linter.unusedVariables false

theorem dn_parts (x : Dn) (h : dnB x = true) : x.rs.length ≤ 1048576 ∧ x.cs.length ≤ 1048576 ∧ (∀ v ∈ x.rs, okR v = true) ∧ ∀ v ∈ x.cs, okCg v = true := by
  unfold dnB doneB listsB at h
  simp only [Bool.and_eq_true, decide_eq_true_eq] at h
  obtain ⟨_, _, h1, h2, h3, h4⟩ := h
  refine ⟨by omega, by omega, List.all_eq_true.1 h1, ?_⟩
  have h5 := lstB_from x.cs x.cs.length 0 (by omega)
  rw [List.take_zero, List.drop_zero] at h5
  intro v hv
  obtain ⟨i, hi, rfl⟩ := List.mem_iff_getElem.1 hv
  exact ((h5.1 h2) i hi (Nat.zero_le _)).1
theorem riseB_all : ∀ (z : Int) (l : List Dn), riseB z l = true → ∀ x ∈ l, dnB x = true
  | _, [], _, x, hx => by simp at hx
  | z, a :: t, h, x, hx => by
    unfold riseB at h
    simp only [Bool.and_eq_true] at h
    rcases List.mem_cons.mp hx with rfl | hx
    · exact h.2.1
    · exact riseB_all a.at_ t h.2.2.2 x hx
theorem dones_parts (l : List Dn) (h : donesB l = true) : l.length ≤ 30 ∧ ∀ x ∈ l, dnB x = true := by
  unfold donesB at h
  simp only [Bool.and_eq_true, decide_eq_true_eq] at h
  exact ⟨h.2, riseB_all 0 l h.1⟩
def aheadD (a b : Dn) : Bool := aheadB a.sn a.at_ b.sn b.at_ a.rs b.cs
/-- The one at a place must come ahead of the one at another place. -/
def edgeP (l : List Dn) (i j : Nat) : Bool := match l[i]?, l[j]? with | some a, some b => aheadD a b | _, _ => false
theorem edgeP_at (l : List Dn) (k : Nat) (hk : k < l.length) (q : Nat) (hq : q < l.length) : edgeP l k q = aheadD l[k] l[q] := by
  simp [edgeP, List.getElem?_eq_getElem hk, List.getElem?_eq_getElem hq]
def otherP (l : List Dn) (i j : Nat) : Bool := (i != j) && edgeP l i j
theorem upTo_other (l : List Dn) (m k q : Nat) : (upTo m (edgeP l) k q).filter (fun x => x.1 != x.2) = upTo m (otherP l) k q := by
  unfold upTo
  rw [List.filter_append, List.filter_flatMap, List.filter_map, List.filter_filter]
  congr 1
  · congr 1
    funext i
    rw [List.filter_map, List.filter_filter]
    rfl
def pairI (x : Nat × Nat) : List Int := [(x.1 : Int), (x.2 : Int)]
def intsP (ps : List (Nat × Nat)) : List Int := ps.flatMap pairI
theorem intsP_add (ps : List (Nat × Nat)) (k q : Nat) : intsP (ps ++ [(k, q)]) = intsP ps ++ [(k : Int), (q : Int)] := by simp [intsP, pairI]
theorem intsP_len : ∀ ps : List (Nat × Nat), (intsP ps).length = 2 * ps.length
  | [] => rfl
  | a :: t => by
    have := intsP_len t
    unfold intsP at this ⊢
    rw [List.flatMap_cons, List.length_append, this]
    simp [pairI]; omega
/-- What EdgesOf tells. -/
def edgL (l : List Dn) : List Int := if donesB l = true then intsP (upTo l.length (otherP l) l.length 0) else []
def edgC (l : List Dn) : Int := if 4096 < l.length then 2 else if donesB l = true then 0 else 1
theorem other_len (l : List Dn) (h : l.length ≤ 30) (k q : Nat) (hk : k ≤ l.length) (hq : q ≤ l.length) : (intsP (upTo l.length (otherP l) k q)).length ≤ 2000 := by
  rw [intsP_len]
  have h1 := upTo_length l.length (otherP l) k q
  have h2 : k * l.length ≤ 30 * 30 := Nat.mul_le_mul (by omega) h
  omega
theorem edgL_len (l : List Dn) : (edgL l).length ≤ 2000 := by
  unfold edgL
  cases h : donesB l
  · simp
  · rw [if_pos rfl]
    exact other_len l (dones_parts l h).1 _ _ (Nat.le_refl _) (Nat.zero_le _)
/-- What an answer of EdgesOf is. -/
def EdR (l : List Dn) (w : World) (e : Ending) (w' : World) : Prop := (∃ v, e = .returned (.tuple #[v, .int .i64 (edgC l)]) ∧ OwnI w' w.heap.size v (edgL l)) ∧ Below w.heap.size w w'
theorem OwnI.nil (w : World) (base : Nat) : OwnI w base (.slice none 0 0) [] := ⟨rfl, .inl ⟨rfl, rfl⟩⟩
theorem OwnI.made (w : World) (base : Nat) (h : base ≤ w.heap.size) : OwnI (w.alloc (.cells #[] 3)) base (.slice (some ⟨w.heap.size, 0, none⟩) 0 0) [] :=
  World.ownsRow_made (size := 1) (e := 3) w #[] 0 h (by unfold maxLen; omega) rfl

end Go.Proofs.YtfchlpgalcedhaaGreatDoor.Ce

/- The pairs of committed ones that are bound, told to rounds that know that both places lie in the list: the iterator's walk. -/
namespace Go.Proofs.YtfchlpgalcedhaaGreatDoor.Ce
open Go.RowKit Go.Shelf Tr Co Rea
set_option linter.unusedVariables false
attribute [local go_sem] Oper.semAt_some

set_option maxRecDepth 100000 in
set_option maxHeartbeats 4000000 in
theorem pairsD_bd (Kp : World → World → Prop) (krefl : ∀ W, Kp W W) (ktrans : ∀ {A B C : World}, Kp A B → Kp B C → Kp A C) (kbel : ∀ W W' : World, Below W.heap.size W W' → Kp W W') (kbx : ∀ (U U' : World) (b : Nat) (vs : Array Value), U.heap[b]? = some (.cells vs 45) → Kp U U' → U'.heap[b]? = some (.cells vs 45))
    (n : Nat) (hn : 1 ≤ n) (l B1 B2 B3 g b1 c1 c2 n1 : Nat) (ds : List Dn) (P : Nat → Nat → Bool) (hP : ∀ k (hk : k < ds.length) q (hq : q < ds.length), P k q = aheadD ds[k] ds[q]) (hl : ds.length ≤ 1048576) (hd : ∀ v ∈ ds, dnB v = true) (J Jx : List (Nat × Nat) → World → Prop) (hJ : AbidesFrom n1 J)
    (hY : ∀ pre x W, J pre W → pre.length < ds.length * ds.length → x.1 < ds.length → x.2 < ds.length → YieldAt Fence.wide (n - 1) Tryz.prog l #[.int .i64 (x.1 : Int), .int .i64 (x.2 : Int)] W fun e W' =>
      (e = .returned (.bool true) ∧ J (pre ++ [x]) W' ∧ Kp W W') ∨ (e = .returned (.bool false) ∧ Jx (pre ++ [x]) W'))
    (W : World) (hF : ∀ W', Kp W W' → W'.cell? ⟨B1, 0, none⟩ = some (.slice (some ⟨g, 0, none⟩) ds.length c1) ∧ W'.cell? ⟨B2, 0, none⟩ = some (.slice (some ⟨g, 0, none⟩) ds.length c2) ∧ W'.cell? ⟨B3, 0, none⟩ = some (.func (.func 52) #[] #[]) ∧ MadeDn W' b1 g ds) (hG : ∀ (W1 W2 : World) (k : Nat) (hk : k < ds.length) (gr : Nat), Kp W W1 → Kp W W2 → W1.cell? ⟨g, k * 6 + 2, none⟩ = some (.slice (some ⟨gr, 0, none⟩) ds[k].rs.length ds[k].rs.length) → MadeRd W1 b1 gr ds[k].rs → MadeRd W2 b1 gr ds[k].rs) (h0 : J [] W) :
    CallsIn Fence.wide n Tryz.prog 74 #[.func (.yield l) #[] #[], .pointer (some ⟨B1, 0, none⟩), .pointer (some ⟨B2, 0, none⟩), .pointer (some ⟨B3, 0, none⟩)] W fun e W' => (∃ v, e = .returned v) ∧
      ((∃ ys, ys = upTo ds.length P ds.length 0 ∧ J ys W') ∨ (∃ pre, (∀ x ∈ pre, Gd ds.length ds.length P x) ∧ Jx pre W')) := by
  have HF : Hid (∀ W', Kp W W' → _) := hF
  have HPP : Hid (∀ k (hk : k < ds.length) q (hq : q < ds.length), P k q = aheadD ds[k] ds[q]) := hP
  have HD : Hid (∀ v ∈ ds, dnB v = true) := hd
  have HBX : Hid (∀ (U U' : World) (b : Nat) (vs : Array Value), U.heap[b]? = some (.cells vs 45) → Kp U U' → U'.heap[b]? = some (.cells vs 45)) := kbx
  obtain ⟨hB1, -, -, -⟩ := hF W (krefl W)
  clear hF hP hd kbx
  refine callsIn_of_wp Tryz.func74 rfl trivial ?_ rfl
  simp only [Tryz.ntmps74, List.size_toArray, List.length_cons, List.length_nil, Nat.reduceAdd, Nat.reduceSub, Array.replicate_succ, Array.replicate_zero, List.push_toArray, List.append_toArray, List.nil_append, List.cons_append]
  gi_wp2
  refine wpIn_wide.2 (wp_scope_straight ((wpIn_wide (n := n)).1 ?_))
  refine wpIn_seq (wpIn_label ?_)
  gi_wp2
  clear hB1
  gi_loopw [11] (fun i wr => ∃ (k : Nat), k ≤ ds.length ∧ i = .int .i64 k ∧ J (upTo ds.length P k 0) wr ∧ Kp W wr)
    (fun i _ => ds.length - (intOf i).toNat)
  case atStart => exact ⟨0, Nat.zero_le _, rfl, by rw [upTo_zero]; exact h0, krefl _⟩
  case round =>
    obtain ⟨k, hk, rfl, hJs, hkc⟩ := hrel
    by_cases hlt : k < ds.length
    · have hlt2 : (k : Int) < (ds.length : Int) := by omega
      obtain ⟨_, hB2w, _, R1⟩ := HF.out _ hkc
      obtain ⟨gr, gc, ⟨x0, x1, x2, x3, x4, x5⟩, u0, u1, u2⟩ := R1.cells k hlt
      have hg1 := R1.lt
      have HSM : Hid (∀ (q : Nat) (h : q < ds.length), P k q = aheadD ds[k] ds[q]) := fun q h => HPP.out k hlt q h
      have hdx := dn_parts ds[k] (HD.out _ (List.getElem_mem _))
      obtain ⟨x, hx⟩ : ∃ x, x = ds[k] := ⟨_, rfl⟩
      rw [← hx] at x0 x1 x2 x3 x4 x5 u0 u1 hdx HSM
      have HKR : Hid (∀ W2, Kp W W2 → MadeRd W2 b1 gr x.rs) := fun W2 h2 => by rw [hx]; exact hG wr W2 k hlt gr hkc h2 (by rw [← hx]; exact x2) (by rw [← hx]; exact u0)
      have HDX : Hid (_ ∧ _) := hdx
      clear hx u0 u1 u2 hdx
      have hal : Below wr.heap.size wr (wr.alloc (.cells #[.int .i64 x.sn, .int .i64 x.at_, .slice (some ⟨gr, 0, none⟩) x.rs.length x.rs.length, .slice (some ⟨gc, 0, none⟩) x.cs.length x.cs.length, .bool x.di, .bool x.do_] 45)) := (Below.refl _ _).alloc (Nat.le_refl _) _
      have HJ5 : Hid (J (upTo ds.length P k 0) _) := hJ _ _ _ none hJs (grown_of_below hal) (fun r e => by cases e)
      have HK5 : Hid (Kp W _) := ktrans hkc (kbel _ _ hal)
      have HX5 : Hid ((wr.alloc (.cells #[.int .i64 x.sn, .int .i64 x.at_, .slice (some ⟨gr, 0, none⟩) x.rs.length x.rs.length, .slice (some ⟨gc, 0, none⟩) x.cs.length x.cs.length, .bool x.di, .bool x.do_] 45)).heap[wr.heap.size]? = some (.cells #[.int .i64 x.sn, .int .i64 x.at_, .slice (some ⟨gr, 0, none⟩) x.rs.length x.rs.length, .slice (some ⟨gc, 0, none⟩) x.cs.length x.cs.length, .bool x.di, .bool x.do_] 45)) := heap_alloc_new _ _
      clear hal
      have hl2 := cell_lt hB2w
      clear R1
      gi_wp2
      clear x0 x1 x2 x3 x4 x5 hB2w hl2 hg1
      generalize wr.alloc _ = W5 at HJ5 HK5 HX5 ⊢
      gi_loopw [18] (fun j wq => ∃ (q : Nat), q ≤ ds.length ∧ j = .int .i64 q ∧ J (upTo ds.length P k q) wq ∧ Kp W5 wq)
        (fun j _ => ds.length - (intOf j).toNat)
      case atStart => exact ⟨0, Nat.zero_le _, rfl, HJ5.out, krefl _⟩
      case round =>
        obtain ⟨q, hq, rfl, hJq, hkq⟩ := hrel
        by_cases hlq : q < ds.length
        · have hlq2 : (q : Int) < (ds.length : Int) := by omega
          have hkW := ktrans HK5.out hkq
          obtain ⟨_, _, hB3w, R1⟩ := HF.out _ hkW
          obtain ⟨kr, kc, ⟨x0, x1, x2, x3, x4, x5⟩, v0, v1, v2⟩ := R1.cells q hlq
          have hg1 := R1.lt
          have hl3 := cell_lt hB3w
          have hXw := HBX.out _ _ _ _ HX5.out hkq
          obtain ⟨y0, y1, y2, y3, y4, y5⟩ := sixDn hXw
          have hly := cell_lt y0
          have HG : Hid (P k q = aheadD x ds[q]) := HSM.out q hlq
          have hdy := dn_parts ds[q] (HD.out _ (List.getElem_mem _))
          obtain ⟨y, hy⟩ : ∃ y, y = ds[q] := ⟨_, rfl⟩
          rw [← hy] at x0 x1 x2 x3 x4 x5 v0 v1 hdy HG
          clear hy R1
          have hur : MadeRd wr b1 gr x.rs := HKR.out _ hkW
          have hal : Below wr.heap.size wr (wr.alloc (.cells #[.int .i64 y.sn, .int .i64 y.at_, .slice (some ⟨kr, 0, none⟩) y.rs.length y.rs.length, .slice (some ⟨kc, 0, none⟩) y.cs.length y.cs.length, .bool y.di, .bool y.do_] 45)) := (Below.refl _ _).alloc (Nat.le_refl _) _
          have HCA : Hid (Calls _ _ _ _ _) := comesAhead_any x.sn x.at_ y.sn y.at_ x.di x.do_ y.di y.do_ (some ⟨gc, 0, none⟩) (some ⟨kr, 0, none⟩) x.cs.length x.cs.length y.rs.length y.rs.length gr kc x.rs.length y.cs.length b1 x.rs y.cs (wr.alloc (.cells #[.int .i64 y.sn, .int .i64 y.at_, .slice (some ⟨kr, 0, none⟩) y.rs.length y.rs.length, .slice (some ⟨kc, 0, none⟩) y.cs.length y.cs.length, .bool y.di, .bool y.do_] 45)) (hur.next hal) (v1.next hal) HDX.out.1 hdy.2.1 HDX.out.2.2.1 hdy.2.2.2
          have hab : aheadB x.sn x.at_ y.sn y.at_ x.rs y.cs = aheadD x y := rfl
          rw [hab] at HCA
          clear hab hur v0 v1 v2 hdy hXw
          cases hP : aheadD x y
          · have HP : Hid (aheadD x y = false) := hP
            have HN : Hid (P k q = false) := HG.out.trans hP
            clear hP
            gi_wp2
            refine ⟨trivial, (callsIn_wide.2 HCA.out).mono ?_⟩
            rintro e w1 ⟨rfl, hb⟩
            rw [HP.out]
            have hBq : Below wr.heap.size wr w1 := hal.trans (hb.mono (by simp))
            have hJ1 : J (upTo ds.length P k q) w1 := hJ _ _ _ none hJq (grown_of_below hBq) (fun r e => by cases e)
            have hk1 : Kp W5 w1 := ktrans hkq (kbel _ _ hBq)
            clear hb x0 x1 x2 x3 x4 x5 y0 y1 y2 y3 y4 y5 hBq hal
            gi_wp2
            refine ⟨fun _ h => (by cases h), ?_⟩
            gi_wp2
            go_roundw
            case rel => exact ⟨q + 1, by omega, by go_num, by rw [upTo_next _ _ _ _ HN.out]; exact hJ1, hk1⟩
            case measure => simp [intOf]; omega
          · have HP : Hid (aheadD x y = true) := hP
            have HN : Hid (P k q = true) := HG.out.trans hP
            clear hP
            gi_wp2
            refine ⟨trivial, (callsIn_wide.2 HCA.out).mono ?_⟩
            rintro e w1 ⟨rfl, hb⟩
            rw [HP.out]
            have hBq : Below wr.heap.size wr w1 := hal.trans (hb.mono (by simp))
            have hJ1 : J (upTo ds.length P k q) w1 := hJ _ _ _ none hJq (grown_of_below hBq) (fun r e => by cases e)
            have hk1 : Kp W5 w1 := ktrans hkq (kbel _ _ hBq)
            clear hb x0 x1 x2 x3 x4 x5 y0 y1 y2 y3 y4 y5 hBq hal
            obtain ⟨fn, tmps, assign, body, hy, hR⟩ := hY (upTo ds.length P k q) (k, q) w1 hJ1 (upTo_room _ _ _ _ _ hlt hlq) hlt hlq
            dsimp only at hy
            gi_wp2
            refine hR.mono ?_
            rintro e W3 (⟨rfl, hJ3, hk3⟩ | ⟨rfl, hJx3⟩)
            · gi_wp2
              go_roundw
              case rel => exact ⟨q + 1, by omega, by go_num, by rw [upTo_add _ _ _ _ HN.out]; exact hJ3, ktrans hk1 hk3⟩
              case measure => simp [intOf]; omega
            · gi_wp2
              rw [Exit.noGoto_normal]
              go_end0
              exact ⟨⟨_, rfl⟩, .inr ⟨_, upTo_gd _ _ _ _ _ hlt hlq HN.out, hJx3⟩⟩
        · have hlq2 : ¬ (q : Int) < (ds.length : Int) := by omega
          obtain rfl : q = ds.length := by omega
          gi_wp2
          go_roundw
          case rel => exact ⟨k + 1, by omega, by go_num, by rw [upTo_turn]; exact hJq, ktrans HK5.out hkq⟩
          case measure => simp [intOf]; omega
    · have hlt2 : ¬ (k : Int) < (ds.length : Int) := by omega
      obtain rfl : k = ds.length := by omega
      gi_wp2
      go_end0
      exact ⟨⟨_, rfl⟩, .inl ⟨_, rfl, hJs⟩⟩


/-- Two places of a list. -/
def Pr (n : Nat) : Type := {x : Nat × Nat // x.1 < n ∧ x.2 < n}
def prL {n : Nat} (pre : List (Pr n)) : List (Nat × Nat) := pre.map fun x => x.1
theorem prL_len {n : Nat} (pre : List (Pr n)) : (prL pre).length = pre.length := by unfold prL; simp
theorem prL_add {n : Nat} (pre : List (Pr n)) (x : Pr n) : prL (pre ++ [x]) = prL pre ++ [x.1] := by unfold prL; simp
theorem pairsF_in (Kp : World → World → Prop) (krefl : ∀ W, Kp W W) (ktrans : ∀ {A B C : World}, Kp A B → Kp B C → Kp A C) (kbel : ∀ W W' : World, Below W.heap.size W W' → Kp W W') (kbx : ∀ (U U' : World) (b : Nat) (vs : Array Value), U.heap[b]? = some (.cells vs 45) → Kp U U' → U'.heap[b]? = some (.cells vs 45))
    (n : Nat) (hn : 1 ≤ n) (l B1 B2 B3 g b1 c1 c2 n1 : Nat) (ds : List Dn) (P : Nat → Nat → Bool) (hP : ∀ k (hk : k < ds.length) q (hq : q < ds.length), P k q = aheadD ds[k] ds[q]) (hl : ds.length ≤ 1048576) (hd : ∀ v ∈ ds, dnB v = true) (J Jx : List (Pr ds.length) → World → Prop) (hJ : AbidesFrom n1 J)
    (hY : ∀ pre x W, J pre W → pre.length < ds.length * ds.length → YieldAt Fence.wide (n - 1) Tryz.prog l #[.int .i64 (x.1.1 : Int), .int .i64 (x.1.2 : Int)] W fun e W' =>
      (e = .returned (.bool true) ∧ J (pre ++ [x]) W' ∧ Kp W W') ∨ (e = .returned (.bool false) ∧ Jx (pre ++ [x]) W'))
    (W : World) (hF : ∀ W', Kp W W' → W'.cell? ⟨B1, 0, none⟩ = some (.slice (some ⟨g, 0, none⟩) ds.length c1) ∧ W'.cell? ⟨B2, 0, none⟩ = some (.slice (some ⟨g, 0, none⟩) ds.length c2) ∧ W'.cell? ⟨B3, 0, none⟩ = some (.func (.func 52) #[] #[]) ∧ MadeDn W' b1 g ds) (hG : ∀ (W1 W2 : World) (k : Nat) (hk : k < ds.length) (gr : Nat), Kp W W1 → Kp W W2 → W1.cell? ⟨g, k * 6 + 2, none⟩ = some (.slice (some ⟨gr, 0, none⟩) ds[k].rs.length ds[k].rs.length) → MadeRd W1 b1 gr ds[k].rs → MadeRd W2 b1 gr ds[k].rs) (h0 : J [] W) :
    CallsIn Fence.wide n Tryz.prog 74 #[.func (.yield l) #[] #[], .pointer (some ⟨B1, 0, none⟩), .pointer (some ⟨B2, 0, none⟩), .pointer (some ⟨B3, 0, none⟩)] W fun e W' => (∃ v, e = .returned v) ∧
      ((∃ ys, prL ys = upTo ds.length P ds.length 0 ∧ J ys W') ∨ (∃ pre, (∀ x ∈ prL pre, Gd ds.length ds.length P x) ∧ Jx pre W')) := by
  refine (pairsD_bd Kp krefl ktrans kbel kbx n hn l B1 B2 B3 g b1 c1 c2 n1 ds P hP hl hd (fun pre U => ∃ p : List (Pr ds.length), prL p = pre ∧ J p U) (fun pre U => ∃ p : List (Pr ds.length), prL p = pre ∧ Jx p U) ?_ ?_ W hF hG ⟨[], rfl, h0⟩).mono ?_
  · rintro s A B row ⟨p, hp, hj⟩ hg hr
    exact ⟨p, hp, hJ p A B row hj hg hr⟩
  · rintro pre x U ⟨p, rfl, hj⟩ hlen h1 h2
    rw [prL_len] at hlen
    obtain ⟨fn, tmps, assign, body, hy, hR⟩ := hY p ⟨x, h1, h2⟩ U hj hlen
    refine ⟨fn, tmps, assign, body, hy, hR.mono ?_⟩
    rintro e U' (⟨rfl, hj', hk⟩ | ⟨rfl, hj'⟩)
    · exact .inl ⟨rfl, ⟨_, prL_add p ⟨x, h1, h2⟩, hj'⟩, hk⟩
    · exact .inr ⟨rfl, ⟨_, prL_add p ⟨x, h1, h2⟩, hj'⟩⟩
  · rintro e U ⟨hv, ⟨ys, hys, p, hp, hj⟩ | ⟨pre, hpre, p, hp, hj⟩⟩
    · exact ⟨hv, .inl ⟨p, hp.trans hys, hj⟩⟩
    · exact ⟨hv, .inr ⟨p, by rw [hp]; exact hpre, hj⟩⟩

end Go.Proofs.YtfchlpgalcedhaaGreatDoor.Ce

/- A range over a function whose rounds all go on, where the iterator may range over another one itself and hand its caller's rounds on: what lies beyond the iterator's call is kept by the rounds. -/
namespace Go.Proofs.YtfchlpgalcedhaaGreatDoor.Ce
open Go.RowKit
set_option linter.unusedVariables false

/-- An iterator that comes to its end if its rounds go on; whatever is no cells and was laid since it was called, each round leaves as it lay. -/
def Goes {α : Type} (F : Fence) (n : Nat) (P : Program) (gf : Nat) (lb : Array Value) (encs : α → Array Value) (Kp : World → World → Prop) (S : List α → Prop) (N : Nat) (w0 : World) : Prop :=
  ∀ (l : Nat) (J : List α → World → Prop) (W : World), Below w0.heap.size w0 W → OwnFrom W.heap.size J →
    (∀ pre x U, J pre U → pre.length < N → YieldAt F (n - 1) P l (encs x) U fun e U' => e = .returned (.bool true) ∧ J (pre ++ [x]) U' ∧ Kp U U' ∧ KeepsFrom W.heap.size U U') →
    J [] W → CallsIn F n P gf (#[.func (.yield l) #[] #[]] ++ lb) W fun e W' => (∃ v, e = .returned v) ∧ ∃ ys, S ys ∧ J ys W'
/-- How a round's body is left: off its end alone. -/
def goesPost {α : Type} (B : Nat) (Kp : World → World → Prop) (I : List α → World → Prop) (xs : List α) (U : World) : Exit → Act → World → Prop
  | .normal, _, U' => KeepsFrom B U U' ∧ Kp U U' ∧ I xs U'
  | _, _, _ => False
theorem keepsFrom_mono {B B' : Nat} {U U' : World} (h : KeepsFrom B U U') (hb : B ≤ B') : KeepsFrom B' U U' := ⟨h.size, fun k o hk => h.same k o (Nat.le_trans hb hk)⟩
theorem keepsFrom_put (B : Nat) (U : World) (l : Nat) (o : Obj) (hl : l < B) : KeepsFrom B U (U.putObj l o) :=
  KeepsFrom.of_grownBy (grownBy_putObj' U l o) (fun j e => by injection e with e; omega)
theorem roundIn_wide {m m' l l' : Nat} {P : Program} {f : FuncId} {tmps : Array Value} {assign body : Code} {w : World} {R : Ending → World → Prop} (h : RoundIn Fence.wide m P l f tmps assign body w R) : RoundIn (Fence.wide.inRound l') m' P l f tmps assign body w R :=
  ⟨trivial, fun c cs _ => h.2 c cs (fun d hd => by cases hd)⟩

theorem range_goes {F : Fence} {n : Nat} {P : Program} {α : Type} {g : Operand} {ps : Array Tmp} {assign body : Code} {Q : Exit → Act → World → Prop} {a : Act} {w : World}
    (hro : F.round = none) (h1 : 1 ≤ n) {gf : Nat} {lb : Array Value} (hg : a.eval g = .func (.func gf) #[] lb) (hFg : F.fn gf) (eg : ∀ args w, (callFunc gf args).run P w = .ok (.enter gf args) w)
    {encs : α → Array Value} {Kp : World → World → Prop} {S : List α → Prop} {N : Nat} {w0 : World} (hseq : Goes F (n - 1) P gf lb encs Kp S N w0)
    (hKt : ∀ {A B C : World}, Kp A B → Kp B C → Kp A C) (hKb : ∀ (U : World) (o o' : Obj), U.heap[w.heap.size + 1]? = some o → o.isCells = false → Kp U (U.putObj (w.heap.size + 1) o'))
    (hb0 : Below w0.heap.size w0 w) (hps : ∀ x, (encs x).size = ps.size)
    (I : List α → World → Prop) (hI : OwnFrom w.heap.size I) (h0 : I [] w) (a1 : α → Act)
    (hassign : ∀ (l : Nat) (x : α) (W : World) (K : Act → World → Prop), K (a1 x) W →
      assign.wpIn (F.inRound l) (n - 1 - 1) P (Exit.then K (fun _ _ _ => False)) { tmps := (ps.zip (encs x)).foldl (fun t (p, v) => t.setIfInBounds p v) a.tmps, defers := [] } W)
    (hbody : ∀ (l : Nat) (pre : List α) (x : α) (W : World), I pre W → pre.length < N → body.wpIn (F.inRound l) (n - 1 - 1) P (goesPost w.heap.size Kp I (pre ++ [x]) W) (a1 x) W)
    (hdone : ∀ (ys : List α) (W : World), S ys → I ys W → W.heap[w.heap.size]? = some (.deferred (some [])) → Q .normal { a with defers := { target := .collected w.heap.size, args := #[] } :: a.defers } W) :
    (Code.rangeFunc g ps assign body).wpIn F n P Q a w := by
  refine wpIn_rangeFunc fun fn hfn => ?_
  rw [hro]
  have hent := run_enterLoop_outer (P := P) (w := w) fn a.tmps ps assign body
  obtain ⟨R, hR⟩ : ∃ R : LoopState → Loop, R = fun st => { state := st, pending := none, fn, tmps := a.tmps, params := ps, assign, body, defers := w.heap.size } := ⟨_, rfl⟩
  have hR0 : (Obj.loop { state := .ready, pending := none, fn, tmps := a.tmps, params := ps, assign, body, defers := w.heap.size }) = .loop (R .ready) := by rw [hR]
  rw [hR0] at hent
  obtain ⟨X, hX⟩ : ∃ X, X = (w.alloc (.deferred (some []))).alloc (.loop (R .ready)) := ⟨_, rfl⟩
  rw [← hX] at hent
  have hXs : X.heap.size = w.heap.size + 2 := by rw [hX]; simp
  have hXl : X.heap[w.heap.size + 1]? = some (.loop (R .ready)) := by
    have h := World.alloc_heap_new (w.alloc (.deferred (some []))) (.loop (R .ready))
    rw [World.size_alloc, ← hX] at h
    exact h
  have hXd : X.heap[w.heap.size]? = some (.deferred (some [])) := by
    rw [hX]
    exact (Below.heap_alloc _ _ _ (by simp)).trans (World.alloc_heap_new w _)
  have hXi : I [] X := by rw [hX]; exact hI.alloc _ (hI.alloc _ h0)
  have hXb : Below w0.heap.size w0 X := by
    rw [hX]
    exact (hb0.alloc hb0.size _).alloc (by simp; exact Nat.le_succ_of_le hb0.size) _
  refine ⟨w.heap.size + 1, [{ target := .collected w.heap.size, args := #[] }], X, { target := .fn (.func gf) lb, args := #[.func (.yield (w.heap.size + 1)) #[] #[]] }, X, gf, #[.func (.yield (w.heap.size + 1)) #[] #[]] ++ lb, X, hent, ?_, ?_, ?_, fun _ => h1, ?_⟩
  · simp only [resolve, hg]
    simp [go_sem]
  · intro f' hf'
    simp [Target.leads] at hf'
    subst hf'
    exact hFg
  · simp [invoke, go_sem, eg]
  clear hent hX hR0
  refine (hseq (w.heap.size + 1) (fun pre U => I pre U ∧ U.heap[w.heap.size + 1]? = some (.loop (R .ready)) ∧ U.heap[w.heap.size]? = some (.deferred (some []))) X hXb ?_ ?_ ⟨hXi, hXl, hXd⟩).mono ?_
  · intro s A B row hs hgr hrow
    have hne : ∀ k, k < X.heap.size → some k ≠ row := fun k hk e => by have := (hrow k e.symm).1; omega
    have hlt := fun (k : Nat) (o : Obj) (e : A.heap[k]? = some o) => (Array.getElem?_eq_some_iff.1 e).1
    exact ⟨hI s A B row hs.1 hgr (fun r e => ⟨by have := (hrow r e).1; omega, (hrow r e).2⟩), (hgr.block _ (hlt _ _ hs.2.1) (hne _ (by omega))).trans hs.2.1, (hgr.block _ (hlt _ _ hs.2.2) (hne _ (by omega))).trans hs.2.2⟩
  · rintro pre x U ⟨hi, hl, hd⟩ hlen
    have hUl : w.heap.size + 1 < U.heap.size := (Array.getElem?_eq_some_iff.1 hl).1
    have hy := run_yield (P := P) (args := encs x) hl (by rw [hR]; exact hps x)
    have hbg := run_beginRound (P := P) hl (by rw [hR])
    rw [show ({ R .ready with state := .busy } : Loop) = R .busy by rw [hR]] at hbg
    rw [hR] at hy
    refine ⟨fn, _, assign, body, hy, roundIn_of_wpIn hfn (hassign _ x U _ ⟨_, hbg, ?_⟩)⟩
    have hbl : (U.putObj (w.heap.size + 1) (.loop (R .busy))).heap[w.heap.size + 1]? = some (.loop (R .busy)) := World.putObj_heap_same hUl
    have hbd : (U.putObj (w.heap.size + 1) (.loop (R .busy))).heap[w.heap.size]? = some (.deferred (some [])) := (World.putObj_heap_other (by omega)).trans hd
    refine wpIn_mono (hbody _ pre x _ (hI.putObj _ hi (by omega) hl rfl) hlen) ?_
    intro e a3 V hp
    cases e with
    | normal =>
      obtain ⟨hk, hkp, hi3⟩ := hp
      have hvl := hk.same _ _ (by omega) hbl rfl
      have hvd := hk.same _ _ (Nat.le_refl _) hbd rfl
      have hend := run_endRound (P := P) none hvl
      rw [show ({ R .busy with state := if (none : Option Code).isNone then .ready else .done, pending := none } : Loop) = R .ready by rw [hR]; rfl] at hend
      have hVl : w.heap.size + 1 < V.heap.size := (Array.getElem?_eq_some_iff.1 hvl).1
      refine ⟨_, _, hend, rfl, ⟨hI.putObj _ hi3 (by omega) hvl rfl, World.putObj_heap_same hVl, (World.putObj_heap_other (by omega)).trans hvd⟩, hKt (hKt (hKb U _ _ hl rfl) hkp) (hKb V _ _ hvl rfl), ?_⟩
      exact ((keepsFrom_put X.heap.size U _ _ (by omega)).trans (keepsFrom_mono hk (by omega))).trans (keepsFrom_put X.heap.size V _ _ (by omega))
    | ret => exact (hp : False).elim
    | exit id => exact (hp : False).elim
    | goto t => exact (hp : False).elim
    | panic ch => exact (hp : False).elim
    | outgrown => exact (hp : False).elim
  · rintro e V ⟨⟨v, rfl⟩, ys, hS, hi, hl, hd⟩
    have hVl : w.heap.size + 1 < V.heap.size := (Array.getElem?_eq_some_iff.1 hl).1
    have hend := run_endLoop (P := P) hl (by rw [hR]; simp)
    exact ⟨(R .ready).pending, _, hend, by rw [hR]; exact hdone ys _ hS (hI.putObj _ hi (by omega) hl rfl) ((World.putObj_heap_other (by omega)).trans hd)⟩

end Go.Proofs.YtfchlpgalcedhaaGreatDoor.Ce

/- In which order committed ones may have come: what is pure. -/
namespace Go.Proofs.YtfchlpgalcedhaaGreatDoor.Ce
open Go.RowKit Tr Co Rea
set_option linter.unusedVariables false

def freeIn (E : Nat → Nat → Bool) (left : List Nat) (k : Nat) : Bool := !(left.any fun o => E o k)
/-- The first one that nothing which is left comes ahead of, again and again. -/
def ordP (E : Nat → Nat → Bool) : Nat → List Nat → Option (List Nat)
  | 0, _ => some []
  | n + 1, left => match left.find? (freeIn E left) with
    | none => none
    | some k => (ordP E n (left.erase k)).map (fun t => k :: t)
def ordR (E : Nat → Nat → Bool) (left out : List Nat) : Option (List Nat) := (ordP E left.length left).map (fun t => out ++ t)
theorem ordR_nil (E : Nat → Nat → Bool) (out : List Nat) : ordR E [] out = some out := by simp [ordR, ordP]
theorem ordP_none (E : Nat → Nat → Bool) (n : Nat) (left : List Nat) (h : left.find? (freeIn E left) = none) : ordP E (n + 1) left = none := by
  show (match left.find? (freeIn E left) with | none => none | some k => (ordP E n (left.erase k)).map (fun t => k :: t)) = none
  rw [h]
theorem ordP_some (E : Nat → Nat → Bool) (n : Nat) (left : List Nat) (k : Nat) (h : left.find? (freeIn E left) = some k) : ordP E (n + 1) left = (ordP E n (left.erase k)).map (fun t => k :: t) := by
  show (match left.find? (freeIn E left) with | none => none | some k => (ordP E n (left.erase k)).map (fun t => k :: t)) = _
  rw [h]
theorem ordR_none (E : Nat → Nat → Bool) (left out : List Nat) (h0 : left ≠ []) (h : left.find? (freeIn E left) = none) : ordR E left out = none := by
  unfold ordR
  cases left with
  | nil => exact absurd rfl h0
  | cons a t => rw [List.length_cons, ordP_none E _ _ h]; rfl
theorem ordR_some (E : Nat → Nat → Bool) (left out : List Nat) (k : Nat) (h : left.find? (freeIn E left) = some k) : ordR E left out = ordR E (left.erase k) (out ++ [k]) := by
  have hm : k ∈ left := List.mem_of_find?_eq_some h
  have hl : left.length = (left.erase k).length + 1 := by rw [List.length_erase_of_mem hm]; have := List.length_pos_of_mem hm; omega
  have e : ordP E left.length left = (ordP E (left.erase k).length (left.erase k)).map (fun t => k :: t) := by
    rw [hl]; exact ordP_some E _ left k h
  unfold ordR
  rw [e, Option.map_map]
  congr 1
  funext t
  simp
theorem ordP_len (E : Nat → Nat → Bool) : ∀ (n : Nat) (left t : List Nat), ordP E n left = some t → t.length ≤ n
  | 0, left, t, h => by simp [ordP] at h; simp [h]
  | n + 1, left, t, h => by
    cases hf : left.find? (freeIn E left) with
    | none => rw [ordP_none E n left hf] at h; cases h
    | some k =>
      rw [ordP_some E n left k hf] at h
      cases hr : ordP E n (left.erase k) with
      | none => rw [hr] at h; cases h
      | some u =>
        rw [hr] at h
        simp at h
        have := ordP_len E n _ u hr
        rw [← h]; simp; exact this
theorem erase_at (p : Nat → Bool) : ∀ (left : List Nat) (a : Nat) (h : a < left.length), p left[a] = true → (∀ (j : Nat) (hj : j < a), p (left[j]'(by omega)) = false) → left.erase left[a] = left.eraseIdx a
  | [], a, h, _, _ => by simp at h
  | x :: t, 0, h, _, _ => by simp
  | x :: t, a + 1, h, hp, hno => by
    have hx : p x = false := hno 0 (by omega)
    have ht : a < t.length := by simpa using h
    have hp' : p t[a] = true := by simpa using hp
    have hne : x ≠ t[a] := by intro e; rw [e, hp'] at hx; cases hx
    have ih := erase_at p t a ht hp' (fun j hj => by simpa using hno (j + 1) (by omega))
    show (x :: t).erase t[a] = x :: t.eraseIdx a
    rw [List.erase_cons_tail (by simpa using hne), ih]
theorem find_at (p : Nat → Bool) (left : List Nat) (a : Nat) (h : a < left.length) (hp : p left[a] = true) (hno : ∀ (j : Nat) (hj : j < a), p (left[j]'(by omega)) = false) : left.find? p = some left[a] :=
  List.find?_eq_some_iff_getElem.mpr ⟨hp, a, h, rfl, fun j hj => by rw [hno j hj]; rfl⟩
theorem find_not (p : Nat → Bool) (left : List Nat) (h : ∀ u ∈ left, p u = false) : left.find? p = none := List.find?_eq_none.mpr fun u hu => by rw [h u hu]; simp
/-- Those that were not taken yet. -/
def leftT (n : Nat) (T : List Bool) : List Nat := (List.range n).filter fun i => !(T.getD i false)
def freeU (E : Nat → Nat → Bool) (T : List Bool) (k i : Nat) : Bool := !(T.getD k false) && (List.range i).all fun j => T.getD j false || !(E j k)
theorem freeU_zero (E : Nat → Nat → Bool) (T : List Bool) (k : Nat) : freeU E T k 0 = !(T.getD k false) := by simp [freeU]
theorem freeU_succ (E : Nat → Nat → Bool) (T : List Bool) (k i : Nat) : freeU E T k (i + 1) = (freeU E T k i && (T.getD i false || !(E i k))) := by
  unfold freeU; rw [List.range_succ, List.all_append, Bool.and_assoc]; simp
theorem freeU_stop (E : Nat → Nat → Bool) (T : List Bool) (k i n : Nat) (h : freeU E T k i = false) (hi : i ≤ n) : freeU E T k n = false := by
  induction n with
  | zero => obtain rfl : i = 0 := by omega
            exact h
  | succ n ih =>
    rcases Nat.lt_or_ge n i with hlt | hge
    · obtain rfl : i = n + 1 := by omega
      exact h
    · rw [freeU_succ, ih hge]; rfl
theorem freeU_eq (E : Nat → Nat → Bool) (T : List Bool) (n k : Nat) : freeU E T k n = (!(T.getD k false) && freeIn E (leftT n T) k) := by
  unfold freeU freeIn leftT
  rw [List.any_filter, List.not_any_eq_all_not]
  congr 2
  funext j
  cases T.getD j false <;> simp
theorem pick_eq (E : Nat → Nat → Bool) (T : List Bool) (n : Nat) : (leftT n T).find? (freeIn E (leftT n T)) = (List.range n).find? fun k => freeU E T k n := by
  have : (fun k => freeU E T k n) = fun k => !(T.getD k false) && freeIn E (leftT n T) k := by funext k; exact freeU_eq E T n k
  rw [this]
  conv => lhs; arg 2; unfold leftT
  rw [List.find?_filter]
  congr 1
  funext a
  simp
theorem pick_some (E : Nat → Nat → Bool) (T : List Bool) (n k : Nat) (hk : k < n) (h : freeU E T k n = true) (hno : ∀ j, j < k → freeU E T j n = false) : (leftT n T).find? (freeIn E (leftT n T)) = some k := by
  rw [pick_eq]
  have := find_at (fun k => freeU E T k n) (List.range n) k (by simpa using hk) (by simpa using h) (fun j hj => by simpa using hno j hj)
  simpa using this
theorem pick_none (E : Nat → Nat → Bool) (T : List Bool) (n : Nat) (hno : ∀ j, j < n → freeU E T j n = false) : (leftT n T).find? (freeIn E (leftT n T)) = none := by
  rw [pick_eq]
  exact find_not _ _ fun u hu => hno u (by simpa using hu)
theorem leftT_set (T : List Bool) (n k : Nat) (hk : k < T.length) : leftT n (T.set k true) = (leftT n T).erase k := by
  unfold leftT
  rw [List.Nodup.erase_eq_filter (List.Nodup.sublist List.filter_sublist List.nodup_range), List.filter_filter]
  congr 1
  funext i
  by_cases e : i = k
  · subst e; simp [List.getD_eq_getElem?_getD, hk]
  · have : (i != k) = true := by simp [e]
    rw [this]
    simp [List.getD_eq_getElem?_getD, List.getElem?_set_ne (fun x => e x.symm)]
theorem leftT_new (n : Nat) : leftT n (List.replicate n false) = List.range n := by
  unfold leftT
  apply List.filter_eq_self.mpr
  intro i hi
  have : i < n := by simpa using hi
  simp [List.getD_eq_getElem?_getD, this]
theorem nil_of_len (l : List Nat) (h : l.length = 0) : l = [] := List.length_eq_zero_iff.1 h

/-- They rise by their times, each is right, and they are no more than 40. -/
def serB (l : List Dn) : Bool := rizB 0 l && decide (l.length ≤ 40)
theorem rizB_all : ∀ (z : Int) (l : List Dn), rizB z l = true → ∀ x ∈ l, dnB x = true
  | _, [], _, x, hx => by simp at hx
  | z, a :: t, h, x, hx => by
    unfold rizB at h
    simp only [Bool.and_eq_true] at h
    rcases List.mem_cons.mp hx with rfl | hx
    · exact h.2.1
    · exact rizB_all a.at_ t h.2.2 x hx
theorem ser_parts (l : List Dn) (h : serB l = true) : l.length ≤ 40 ∧ ∀ x ∈ l, dnB x = true := by
  unfold serB at h
  simp only [Bool.and_eq_true, decide_eq_true_eq] at h
  exact ⟨h.2, rizB_all 0 l h.1⟩
def natI (l : List Nat) : List Int := l.map fun k : Nat => (k : Int)
theorem natI_len (l : List Nat) : (natI l).length = l.length := by unfold natI; simp
theorem natI_add (l : List Nat) (k : Nat) : natI (l ++ [k]) = natI l ++ [(k : Int)] := by unfold natI; simp
def srlO (l : List Dn) : Option (List Nat) := ordR (otherP l) (List.range l.length) []
/-- What SerialOrder tells. -/
def orL : Option (List Nat) → List Int
  | none => []
  | some t => natI t
def orC : Option (List Nat) → Int
  | none => 19
  | some _ => 0
def srlL (l : List Dn) : List Int := if serB l = true then orL (srlO l) else []
def srlC (l : List Dn) : Int := if 4096 < l.length then 2 else if serB l = true then orC (srlO l) else 1
theorem srlL_len (l : List Dn) : (srlL l).length ≤ 40 := by
  unfold srlL
  cases h : serB l
  · simp
  rw [if_pos rfl]
  have hl := (ser_parts l h).1
  unfold srlO ordR
  cases hr : ordP (otherP l) (List.range l.length).length (List.range l.length) with
  | none => simp [orL]
  | some t =>
    have := ordP_len _ _ _ _ hr
    rw [List.length_range] at this
    simp [orL, natI_len]
    omega
/-- What an answer of SerialOrder is. -/
def SrR (l : List Dn) (w : World) (e : Ending) (w' : World) : Prop := (∃ v, e = .returned (.tuple #[v, .int .i64 (srlC l)]) ∧ OwnI w' w.heap.size v (srlL l)) ∧ Below w.heap.size w w'

end Go.Proofs.YtfchlpgalcedhaaGreatDoor.Ce

/- The edges, ranged over by rounds that write into one block alone. -/
namespace Go.Proofs.YtfchlpgalcedhaaGreatDoor.Ce
open Go.RowKit Go.Shelf Tr Co Rea
set_option linter.unusedVariables false
attribute [local go_sem] Oper.semAt_some

/-- What the rounds leave: all boxes but one, and those of other types than that one's. -/
structure Kq (B : Nat) (W W' : World) : Prop where
  size : W.heap.size ≤ W'.heap.size
  low : ∀ (b : Nat) (o : Obj), W.heap[b]? = some o → o.isCells = true → b ≠ B → W'.heap[b]? = some o
  ty : ∀ (b : Nat) (vs : Array Value) (T : TypeId), W.heap[b]? = some (.cells vs T) → T ≠ 57 → W'.heap[b]? = some (.cells vs T)
theorem Kq.refl (B : Nat) (W : World) : Kq B W W := ⟨Nat.le_refl _, fun _ _ h _ _ => h, fun _ _ _ h _ => h⟩
theorem Kq.trans {B : Nat} {X Y Z : World} (h : Kq B X Y) (k : Kq B Y Z) : Kq B X Z :=
  ⟨Nat.le_trans h.size k.size, fun b o e hc hn => k.low b o (h.low b o e hc hn) hc hn, fun b vs T e h1 => k.ty b vs T (h.ty b vs T e h1) h1⟩
theorem Kq.below {B : Nat} {W W' : World} (h : Below W.heap.size W W') : Kq B W W' :=
  ⟨h.size, fun b o e _ _ => (h.block b (Array.getElem?_eq_some_iff.1 e).1).trans e, fun b vs T e _ => (h.block b (Array.getElem?_eq_some_iff.1 e).1).trans e⟩
theorem Kq.grown {B : Nat} {U U' : World} {row : Option Nat} (hg : U.grownBy U' row) (hr : ∀ r, row = some r → ∃ o : Obj, U.heap[r]? = some o ∧ o.isCells = false) : Kq B U U' :=
  ⟨hg.size, fun b o e hc _ => (hg.block b (Array.getElem?_eq_some_iff.1 e).1 (fun e' => by
    obtain ⟨o', ho, hc'⟩ := hr b e'.symm
    rw [e] at ho
    cases ho
    rw [hc] at hc'
    cases hc')).trans e, fun b vs T e _ => (hg.block b (Array.getElem?_eq_some_iff.1 e).1 (fun e' => by
    obtain ⟨_, ho, hc⟩ := hr b e'.symm
    rw [e] at ho
    cases ho
    cases hc)).trans e⟩
theorem kq_put {B : Nat} (U : World) (l : Nat) (o o' : Obj) (h : U.heap[l]? = some o) (hc : o.isCells = false) : Kq B U (U.putObj l o') :=
  Kq.grown (grownBy_putObj' U l o') (fun r e => by injection e with e; subst e; exact ⟨o, h, hc⟩)
theorem kq_cell {B b : Nat} {X U U' : World} {v : Value} {T : TypeId} (hX : X.heap[b]? = some (.cells #[v] T)) (hU : Below X.heap.size X U) (hK : Kq B U U') (h1 : b ≠ B) : U'.cell? ⟨b, 0, none⟩ = some v := by
  have e := hK.low b _ ((hU.block b (Array.getElem?_eq_some_iff.1 hX).1).trans hX) rfl h1
  simp [World.cell?, e]
theorem cell_obj {w : World} {b o : Nat} {v : Value} (e : w.cell? ⟨b, o, none⟩ = some v) : ∃ x, w.heap[b]? = some x ∧ x.isCells = true := by
  cases h : w.heap[b]? with
  | none => simp [World.cell?, h] at e
  | some x =>
    refine ⟨x, rfl, ?_⟩
    cases x <;> first | rfl | (simp [World.cell?, h] at e)
theorem kq_set {B o : Nat} {U : World} {M : Array Value} (hM : U.heap[B]? = some (.cells M 57)) (v : Value) : Kq B U (U.setCell ⟨B, o, none⟩ v) := by
  have hg : U.grownBy (U.setCell ⟨B, o, none⟩ v) (some B) := grown_set
  refine ⟨hg.size, fun b x e hc hn => (hg.block b (Array.getElem?_eq_some_iff.1 e).1 (fun e' => hn (Option.some.inj e'))).trans e, fun b vs T e hT => (hg.block b (Array.getElem?_eq_some_iff.1 e).1 (fun e' => ?_)).trans e⟩
  obtain rfl : b = B := Option.some.inj e'
  rw [hM] at e
  simp at e
  exact hT e.2.symm

/-- The world behind the pairs' maker. -/
def mkE (w : World) (v1 v2 : Value) : World := ((w.alloc (.cells #[v1] 27)).alloc (.cells #[v2] 27)).alloc (.cells #[.func (.func 52) #[] #[]] 47)
set_option maxRecDepth 4000 in
set_option maxHeartbeats 1000000 in
theorem pairsD_any (p1 p2 : Option Addr) (n1 n2 c1 c2 : Nat) (w : World) :
    Calls Tryz.prog 51 #[.slice p1 n1 c1, .slice p2 n2 c2, .func (.func 52) #[] #[]] w fun e w' => e = .returned (.func (.func 74) #[] #[.pointer (some ⟨w.heap.size, 0, none⟩), .pointer (some ⟨w.heap.size + 1, 0, none⟩), .pointer (some ⟨w.heap.size + 1 + 1, 0, none⟩)]) ∧ w' = mkE w (.slice p1 n1 c1) (.slice p2 n2 c2) := by
  go_enter Tryz.func51, Tryz.ntmps51
  go_wp2_with fail
  go_ret
  exact ⟨rfl, rfl⟩
theorem mkE_facts (w : World) (v1 v2 : Value) : Below w.heap.size w (mkE w v1 v2) ∧ (mkE w v1 v2).heap.size = w.heap.size + 3 ∧ (mkE w v1 v2).heap[w.heap.size]? = some (.cells #[v1] 27) ∧ (mkE w v1 v2).heap[w.heap.size + 1]? = some (.cells #[v2] 27) ∧ (mkE w v1 v2).heap[w.heap.size + 1 + 1]? = some (.cells #[.func (.func 52) #[] #[]] 47) := by
  unfold mkE
  refine ⟨(((Below.refl _ _).alloc (Nat.le_refl _) _).alloc (by simp) _).alloc (by simp; omega) _, by simp, ?_, ?_, ?_⟩
  · exact (Below.heap_alloc _ _ _ (by simp; omega)).trans ((Below.heap_alloc _ _ _ (by simp)).trans (heap_alloc_new _ _))
  · have h := heap_alloc_new (w.alloc (.cells #[v1] 27)) (.cells #[v2] 27)
    rw [heap_size_alloc] at h
    exact (Below.heap_alloc _ _ _ (by simp)).trans h
  · have h := heap_alloc_new ((w.alloc (.cells #[v1] 27)).alloc (.cells #[v2] 27)) (.cells #[.func (.func 52) #[] #[]] 47)
    rw [heap_size_alloc, heap_size_alloc] at h
    exact h
set_option maxRecDepth 4000 in
set_option maxHeartbeats 1000000 in
theorem edges_any (p : Option Addr) (n c : Nat) (w : World) :
    Calls Tryz.prog 29 #[.slice p n c] w fun e w' => e = .returned (.func (.func 50) #[] #[.pointer (some ⟨w.heap.size, 0, none⟩)]) ∧ w' = w.alloc (.cells #[.slice p n c] 27) := by
  go_enter Tryz.func29, Tryz.ntmps29
  go_wp2_with fail
  go_ret
  exact ⟨rfl, rfl⟩
def neP (x : Nat × Nat) : Bool := x.1 != x.2
def neQ {n : Nat} (x : Pr n) : Bool := neP x.1
theorem neQ_prL {n : Nat} (pre : List (Pr n)) : prL (pre.filter neQ) = (prL pre).filter neP := by
  unfold prL
  rw [List.filter_map]
  rfl
theorem neQ_skip {n : Nat} (pre : List (Pr n)) (x : Pr n) (h : x.1.1 = x.1.2) : (pre ++ [x]).filter neQ = pre.filter neQ := by
  rw [List.filter_append]
  have : [x].filter neQ = [] := by simp [neQ, neP, h]
  rw [this, List.append_nil]
theorem neQ_add {n : Nat} (pre : List (Pr n)) (x : Pr n) (h : ¬ x.1.1 = x.1.2) : (pre ++ [x]).filter neQ = pre.filter neQ ++ [x] := by
  rw [List.filter_append]
  have : [x].filter neQ = [x] := by simp [neQ, neP, h]
  rw [this]
set_option maxRecDepth 100000 in
set_option maxHeartbeats 4000000 in
theorem edges_goes (w W0 : World) (B b0 g c b1 : Nat) (ds : List Dn) (h1 : MadeDn w b1 g ds) (hlen : ds.length ≤ 1048576) (hdn : ∀ v ∈ ds, dnB v = true) (hB0 : Below w.heap.size w W0) (hBw : w.heap.size ≤ B) (hB1 : B < W0.heap.size) (hbB : b0 ≠ B) (hbx : W0.heap[b0]? = some (.cells #[.slice (some ⟨g, 0, none⟩) ds.length c] 27)) :
    Goes Fence.wide 3 Tryz.prog 50 #[.pointer (some ⟨b0, 0, none⟩)] (fun x : Pr ds.length => #[.int .i64 (x.1.1 : Int), .int .i64 (x.1.2 : Int)]) (Kq B) (fun ys => prL ys = (upTo ds.length (edgeP ds) ds.length 0).filter neP) (ds.length * ds.length) W0 := by
  intro l J W hW hJ hY h0
  have HDN : Hid (∀ x ∈ ds, dnB x = true) := hdn
  have H1 : Hid (MadeDn _ _ _ _) := h1
  have HKC : Hid (∀ U U' : World, Below W0.heap.size W0 U → Kq B U U' → Kc w U') := fun U U' hU hK => ⟨by have := hK.size; have := hU.size; have := hB0.size; omega, fun b o v e => by
    have hbl := cell_lt e
    obtain ⟨x, hx, hxc⟩ := cell_obj e
    have hxU : U.heap[b]? = some x := ((hB0.trans (hU.mono hB0.size)).block b hbl).trans hx
    exact (World.cell?_of_block (a := ⟨b, o, none⟩) ((hK.low b x hxU hxc (by omega)).trans hx.symm)).trans e⟩
  have hb0c : W.cell? ⟨b0, 0, none⟩ = some (.slice (some ⟨g, 0, none⟩) ds.length c) := kq_cell hbx hW (Kq.refl B W) hbB
  have hb0l := cell_lt hb0c
  have HY : Hid _ := hY
  have HJ : Hid (OwnFrom W.heap.size J) := hJ
  have hWs := hW.size
  clear hdn h1 hY hJ hbx hB0
  refine callsIn_of_wp_marks Tryz.func50 rfl trivial ?_ rfl
  simp only [Tryz.ntmps50, List.size_toArray, List.length_cons, List.length_nil, Nat.reduceAdd, Nat.reduceSub, Array.replicate_succ, Array.replicate_zero, List.push_toArray, List.append_toArray, List.nil_append, List.cons_append]
  gi_wp2
  refine ⟨trivial, (callsIn_wide.2 (pairsD_any _ _ _ _ _ _ _)).mono ?_⟩
  rintro e w' ⟨rfl, rfl⟩
  obtain ⟨m0, m1, m2, m3, m4⟩ := mkE_facts (W.alloc (.cells #[.func (.yield l) #[] #[]] 101)) (.slice (some ⟨g, 0, none⟩) ds.length c) (.slice (some ⟨g, 0, none⟩) ds.length c)
  have hA : Below W.heap.size W (W.alloc (.cells #[.func (.yield l) #[] #[]] 101)) := (Below.refl _ _).alloc (Nat.le_refl _) _
  have m5 : (mkE (W.alloc (.cells #[.func (.yield l) #[] #[]] 101)) (.slice (some ⟨g, 0, none⟩) ds.length c) (.slice (some ⟨g, 0, none⟩) ds.length c)).heap[W.heap.size]? = some (.cells #[.func (.yield l) #[] #[]] 101) := (m0.block W.heap.size (by simp)).trans (heap_alloc_new _ _)
  have hB : Below W.heap.size W (mkE (W.alloc (.cells #[.func (.yield l) #[] #[]] 101)) (.slice (some ⟨g, 0, none⟩) ds.length c) (.slice (some ⟨g, 0, none⟩) ds.length c)) := hA.trans (m0.mono hA.size)
  generalize mkE (W.alloc (.cells #[.func (.yield l) #[] #[]] 101)) (.slice (some ⟨g, 0, none⟩) ds.length c) (.slice (some ⟨g, 0, none⟩) ds.length c) = X at m0 m1 m2 m3 m4 m5 hB ⊢
  simp only [World.size_alloc] at m1 m2 m3 m4
  have hJX : J [] X := HJ.out [] W X none h0 (grown_of_below hB) (fun r e => by cases e)
  have hWX := hB.size
  have hWB : Below W0.heap.size W0 X := hW.trans (hB.mono hWs)
  have hNX : W0.heap.size ≤ X.heap.size := hWB.size
  have HWB : Hid (Below W0.heap.size W0 X) := hWB
  have M2 : Hid (_ = _) := m2
  have M3 : Hid (_ = _) := m3
  have M4 : Hid (_ = _) := m4
  have M5 : Hid (_ = _) := m5
  clear m0 hA h0 hb0c m2 m3 m4 m5 hWB
  gi_wp2
  refine wpIn_rangeFunc_ownG rfl (by decide) (gf := 74) (lb := #[.pointer (some ⟨W.heap.size + 1, 0, none⟩), .pointer (some ⟨W.heap.size + 1 + 1, 0, none⟩), .pointer (some ⟨W.heap.size + 1 + 1 + 1, 0, none⟩)]) rfl trivial (enters_of Tryz.func74 (by kernel_rfl) rfl)
    (α := Pr ds.length) (encs := fun x => #[.int .i64 (x.1.1 : Int), .int .i64 (x.1.2 : Int)]) (Kp := Kq B) (S := fun ys => prL ys = upTo ds.length (edgeP ds) ds.length 0) (Sp := fun pre => ∀ x ∈ prL pre, Gd ds.length ds.length (edgeP ds) x) (N := ds.length * ds.length) (w0 := X)
    (fun l2 J2 Jx2 U hU hJ2 _ hY2 h02 => pairsF_in (Kq B) (Kq.refl _) Kq.trans (fun A A' hA => Kq.below hA) (fun A A' b vs e hK => hK.ty b vs _ e (by decide)) 2 (by decide) l2 (W.heap.size + 1) (W.heap.size + 1 + 1) (W.heap.size + 1 + 1 + 1) g b1 c c U.heap.size ds (edgeP ds) (fun k hk q hq => edgeP_at ds k hk q hq) hlen HDN.out J2 Jx2 hJ2 hY2 U
      (fun U' hK => ⟨kq_cell M2.out hU hK (by omega), kq_cell M3.out hU hK (by omega), kq_cell M4.out hU hK (by omega), madeDn_kc H1.out (HKC.out U U' (HWB.out.trans (hU.mono hNX)) hK)⟩)
      (fun U1 U2 k hk gr hK1 hK2 e hm => by
        obtain ⟨gr0, gc0, ⟨_, _, e2, _⟩, u0, _⟩ := H1.out.cells k hk
        have e3 := (HKC.out U U1 (HWB.out.trans (hU.mono hNX)) hK1).cell _ _ _ e2
        rw [e] at e3
        injection e3 with e3
        injection e3 with e3
        injection e3 with e3
        injection e3 with e3
        subst e3
        exact madeRd_kc u0 (HKC.out U U2 (HWB.out.trans (hU.mono hNX)) hK2)) h02)
    Kq.trans (fun U l2 o o' hl ho hc _ => kq_put U l2 o o' ho hc) (Below.refl _ _) (fun _ => rfl)
    (fun pre U => J (pre.filter neQ) U ∧ Kq B X U)
    (fun _ _ _ => False)
    (fun s A A' row hs hg hr => ⟨HJ.out _ A A' row hs.1 hg (fun r e => ⟨by have := (hr r e).1; omega, (hr r e).2⟩), hs.2.trans (Kq.grown hg (fun r e => (hr r e).2))⟩)
    (fun _ _ _ _ _ hs _ _ => hs)
    ⟨hJX, Kq.refl _ _⟩
    (fun x => { tmps := #[.func (.yield l) #[] #[], .pointer (some ⟨b0, 0, none⟩), .pointer (some ⟨W.heap.size, 0, none⟩), .int .i64 (x.1.1 : Int), .int .i64 (x.1.2 : Int), .slice (some ⟨g, 0, none⟩) ds.length c, .slice (some ⟨g, 0, none⟩) ds.length c, .func (.func 74) #[] #[.pointer (some ⟨W.heap.size + 1, 0, none⟩), .pointer (some ⟨W.heap.size + 1 + 1, 0, none⟩), .pointer (some ⟨W.heap.size + 1 + 1 + 1, 0, none⟩)], .int .i64 (x.1.1 : Int), .int .i64 (x.1.2 : Int), undef, undef, undef, undef, undef, undef, undef, undef, undef, undef], defers := [] }) ?assign ?body ?done ?stop
  case assign =>
    intro l2 x U K hK
    gi_wp2
    exact hK
  case body =>
    rintro l2 pre x U ⟨hj, hk⟩ hpn
    have hc : U.cell? ⟨W.heap.size, 0, none⟩ = some (.func (.yield l) #[] #[]) := kq_cell M5.out (Below.refl _ X) hk (by omega)
    have hcl := cell_lt hc
    by_cases hx : x.1.1 = x.1.2
    · have hx2 : ((x.1.1 : Int) != (x.1.2 : Int)) = false := by simp [hx]
      gi_wp2
      refine ⟨fun _ h => (by cases h), ?_⟩
      gi_wp2
      exact ⟨KeepsFrom.refl _ _, Kq.refl _ _, by rw [neQ_skip pre x hx]; exact hj, hk⟩
    · have hx2 : ((x.1.1 : Int) != (x.1.2 : Int)) = true := by simp; omega
      obtain ⟨fn, tmps, assign, body, hy, hR⟩ := HY.out (pre.filter neQ) x U hj (Nat.lt_of_le_of_lt (List.length_filter_le _ _) hpn)
      gi_wp2
      refine (roundIn_wide hR).mono ?_
      rintro e U3 ⟨rfl, hj3, hk3, hf3⟩
      gi_wp2
      exact ⟨keepsFrom_mono hf3 hWX, hk3, by rw [neQ_add pre x hx]; exact hj3, hk.trans hk3⟩
  case done =>
    rintro D ys U hD hys ⟨hj, hk⟩ hKD
    gi_wp2
    refine ⟨by simp, .inl ⟨_, _, rfl, run_takeDeferred hKD, ?_⟩⟩
    refine ⟨.tuple #[], by simp [results, Tryz.f50, go_sem], ⟨⟨_, rfl⟩, _, by rw [neQ_prL, hys], HJ.out.putObj _ hj (by omega) hKD rfl⟩⟩
  case stop =>
    rintro D c pre U _ _ h _
    exact h.elim


end Go.Proofs.YtfchlpgalcedhaaGreatDoor.Ce

/- One number put behind a row of the call's own; rows of parted types lie apart. -/
namespace Go.Proofs.YtfchlpgalcedhaaGreatDoor.Ce
open Go.RowKit Tr
set_option linter.unusedVariables false

theorem ownI_lower {w : World} {base base' : Nat} {v : Value} {l : List Int} (h : OwnI w base v l) (hb : base' ≤ base) : OwnI w base' v l := by
  obtain ⟨h1, h2⟩ := h
  refine ⟨h1, ?_⟩
  rcases h2 with h2 | ⟨g, cap, cur, hv, hg, r⟩
  · exact .inl h2
  · exact .inr ⟨g, cap, cur, hv, Nat.le_trans hb hg, r⟩
theorem intsV_one (l : List Int) (x : Int) : intsV (l ++ [x]) = intsV l ++ [.int .i64 x] := by unfold intsV; simp
theorem cellOne (w : World) (a : Value) (T : TypeId) : ∀ (j : Nat) (u : Value), [a][j]? = some u → (w.alloc (.cells #[a] T)).cell? ((⟨w.heap.size, 0, none⟩ : Addr).add j) = some u := by
  intro j u hj
  match j, hj with
  | 0, hj => simp at hj; subst hj; simp [Addr.add, go_sem]
  | j + 1, hj => simp at hj
theorem appOneI {ops : Array Oper} {rest : List Oper} {o : Oper} {a : Act} {Q : Exit → Act → World → Prop} {w : World} (hgd : o.guard = none) (s x : Operand)
    (ho : o.op = .call { callee := .builtin .append, args := #[s, x], argTypes := #[24, 24] }) (B : Nat) (v : Value) (l : List Int) (c : Int)
    (ad : Nat) (hs : a.eval s = v) (hx : a.eval x = .slice (some ⟨ad, 0, none⟩) 1 1) (had : ad = w.heap.size) (hown : OwnI w B v l) (hB : B ≤ w.heap.size) (hlim : l.length ≤ 1000000)
    (h : ∀ v' w', OwnI w' B v' (l ++ [c]) → Below B w w' → wpList Tryz.prog ops Q rest (a.put o.dst v') w') :
    wpList Tryz.prog ops Q (o :: rest) a (w.alloc (.cells #[.int .i64 c] 3)) := by
  subst had
  obtain ⟨i0, hi, hz0, hz1, hz2⟩ := info_parts infoZ
  refine wpList_append_own _ hgd s x 24 ho B 3 i0 (.int .i64 0) 1 8 Tryz.underlying24 hi hz0 hz1 hz2 rfl (by decide) _ _ _ hs (World.ownsRow.alloc hown _) ⟨w.heap.size, 0, none⟩ 1 1 [.int .i64 c] hx rfl (cellOne _ _ _) (by intro u hu; simp at hu; subst hu; rfl) (by unfold maxLen; omega) (by omega) (by simp; omega) ?_
  intro v' w' hown' hgrow _
  have ha : Below B w (w.alloc (.cells #[.int .i64 c] 3)) := (Below.refl _ _).alloc hB _
  refine h v' w' ?_ (Below.grown ha hgrow (by simp; omega) (fun k hk => (World.ownsRow.lt hown k hk).1))
  unfold OwnI
  rw [intsV_one, List.length_append]
  exact hown'
theorem appOneG {ops : Array Oper} {rest : List Oper} {o : Oper} {a : Act} {Q : Exit → Act → World → Prop} {w : World} (hgd : o.guard = none) (s x : Operand)
    (ho : o.op = .call { callee := .builtin .append, args := #[s, x], argTypes := #[24, 24] }) (B : Nat) (v : Value) (l : List Int) (c : Int)
    (ad : Nat) (hs : a.eval s = v) (hx : a.eval x = .slice (some ⟨ad, 0, none⟩) 1 1) (had : ad = w.heap.size) (hown : OwnI w B v l) (hB : B ≤ w.heap.size) (hlim : l.length ≤ 1000000)
    (h : ∀ v' w', OwnI w' B v' (l ++ [c]) → (w.alloc (.cells #[.int .i64 c] 3)).grownBy w' v.ownBlock → wpList Tryz.prog ops Q rest (a.put o.dst v') w') :
    wpList Tryz.prog ops Q (o :: rest) a (w.alloc (.cells #[.int .i64 c] 3)) := by
  subst had
  obtain ⟨i0, hi, hz0, hz1, hz2⟩ := info_parts infoZ
  refine wpList_append_own _ hgd s x 24 ho B 3 i0 (.int .i64 0) 1 8 Tryz.underlying24 hi hz0 hz1 hz2 rfl (by decide) _ _ _ hs (World.ownsRow.alloc hown _) ⟨w.heap.size, 0, none⟩ 1 1 [.int .i64 c] hx rfl (cellOne _ _ _) (by intro u hu; simp at hu; subst hu; rfl) (by unfold maxLen; omega) (by omega) (by simp; omega) ?_
  intro v' w' hown' hgrow _
  refine h v' w' ?_ hgrow
  unfold OwnI
  rw [intsV_one, List.length_append]
  exact hown'

theorem rows_ne {W : World} {b1 b2 : Nat} {e1 e2 : TypeId} {s1 s2 : Nat} {v1 v2 : Value} {n1 n2 : Nat} {xs1 xs2 : List Value} (h1 : W.ownsRow b1 e1 s1 v1 n1 xs1) (h2 : W.ownsRow b2 e2 s2 v2 n2 xs2) (he : e1 ≠ e2) : v1.ownBlock = none ∨ v1.ownBlock ≠ v2.ownBlock := by
  rcases h1.2 with ⟨rfl, _⟩ | ⟨g, cap, cur, rfl, _, hg, _⟩
  · exact .inl rfl
  · refine .inr fun e => ?_
    rcases h2.2 with ⟨rfl, _⟩ | ⟨g2, cap2, cur2, rfl, _, hg2, _⟩
    · cases e
    · obtain rfl : g = g2 := by simpa [Value.ownBlock] using e
      rw [hg] at hg2
      simp at hg2
      exact he hg2.2

end Go.Proofs.YtfchlpgalcedhaaGreatDoor.Ce
