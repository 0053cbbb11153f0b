/- Whether a definition of an index is right: what the program and the specification answer. -/
import Derived.Test.YtnmpfooegnmknaaDoorDefE
import Derived.Test.YtnmpfooegnmknaaDoorPathW
namespace Go.Proofs.YtnmpfooegnmknaaDoor.Tr
open Go.RowKit
set_option linter.unusedVariables false

theorem ret_bool' {a b : Bool} (h : a = b) : Ending.returned (.bool a) = .returned (.bool b) := by rw [h]
def okPt (p : Prt) : Bool := pathB p.path
def alikeP (s : ByteArray) (q : Prt) : Bool := q.path.toList == s.toList
/-- No path twice. -/
def diffB (pre : List Prt) : List Prt → Bool
  | [] => true
  | p :: t => !(pre.any (alikeP p.path)) && diffB (pre ++ [p]) t
theorem diffB_cons (pre : List Prt) (p : Prt) (t : List Prt) : diffB pre (p :: t) = (!(pre.any (alikeP p.path)) && diffB (pre ++ [p]) t) := rfl
theorem drop_consD (l : List Prt) (k : Nat) (h : k < l.length) : l.drop k = l[k] :: l.drop (k + 1) := by rw [List.drop_eq_getElem_cons h]
def defB (n : ByteArray) (l : List Prt) : Bool := shortB n && (decide (1 ≤ l.length ∧ l.length ≤ 2) && (l.all okPt && diffB [] l))
theorem ReadD.take {w : World} {g : Nat} {f : List Prt} (h : ReadD w g f) (k : Nat) : ReadD w g (f.take k) :=
  ⟨h.lt, fun i hi => by
    have h1 : i < f.length := by simp at hi; omega
    have := h.cells i h1
    simpa using this⟩

set_option maxRecDepth 4000 in
set_option maxHeartbeats 1000000 in
theorem isWrongPart_any (s : ByteArray) (d : Bool) (w : World) (hs : s.size ≤ 1048576) :
    Calls Tryd.prog 37 #[.agg #[.string s, .bool d]] w fun e w' => e = .returned (.bool (!(pathB s))) ∧ Below w.heap.size w w' := by
  have hb0 : Below w.heap.size w (w.alloc (.cells #[.string s, .bool d] 47)) := (Below.refl _ _).alloc (Nat.le_refl _) _
  have HC : Hid (∀ W : World, Calls _ _ _ W _) := fun W => pathOK_any s W hs
  go_enter Tryd.func37, Tryd.ntmps37
  go_wp2_with fail
  refine (HC.out _).mono ?_
  rintro e w1 ⟨rfl, hb⟩
  have hbw := hb0.trans (hb.mono hb0.size)
  clear hb
  go_wp2_with fail
  go_ret
  exact ⟨rfl, hbw⟩
set_option maxRecDepth 4000 in
set_option maxHeartbeats 1000000 in
theorem idxWrongD_any (q : Option Addr) (qc : Nat) (l : List Prt) (w : World) (hr : RowD w q l) (hl : l.length ≤ 1048576) (hs : ∀ v ∈ l, szPt v) :
    Calls Tryd.prog 50 #[.slice q l.length qc, .func (.func 37) #[] #[]] w fun e w' => (∃ i : Int, e = .returned (.int .i64 i) ∧ decide (0 ≤ i) = !(l.all okPt)) ∧ Below w.heap.size w w' := by
  have HR : Hid (RowD _ _ _) := hr
  have HS : Hid _ := hs
  clear hr hs
  go_enter Tryd.func50, Tryd.ntmps50
  go_wp2_with fail
  go_loopw [8] (fun i wr => ∃ k : Nat, k ≤ l.length ∧ i = .int .i64 k ∧ (∀ u ∈ l.take k, okPt u = true) ∧ Below w.heap.size w wr) (fun i _ => l.length - (intOf i).toNat)
  case atStart => exact ⟨0, Nat.zero_le _, rfl, fun u hu => by simp at hu, Below.refl _ _⟩
  case round =>
    obtain ⟨k, hk, rfl, hall, hbel⟩ := hrel
    have HA : Hid _ := hall
    clear hall
    by_cases hlt : k < l.length
    · rcases HR.out.next hbel with h0 | ⟨g, rfl, R⟩
      · subst h0; simp at hlt
      obtain ⟨x0, x1⟩ := R.cells k hlt
      have hlt2 : (k : Int) < (l.length : Int) := by omega
      have HK0 : ∀ W : World, Calls Tryd.prog 37 #[.agg #[.string l[k].path, .bool l[k].desc]] W fun e w' => e = .returned (.bool (!(okPt l[k]))) ∧ Below W.heap.size W w' := fun W => isWrongPart_any l[k].path l[k].desc W (HS.out l[k] (List.getElem_mem _))
      cases hP : okPt l[k]
      · rw [hP] at HK0
        have HK : Hid _ := HK0
        have hal : l.all okPt = false := by
          rw [Bool.eq_false_iff]; intro hh
          have := List.all_eq_true.mp hh l[k] (List.getElem_mem _)
          rw [hP] at this; cases this
        have HL : Hid _ := hal
        clear R hP HK0 hal
        go_wp2_with fail
        refine (HK.out _).mono ?_
        rintro e w1 ⟨rfl, hb⟩
        have hb1 := hbel.trans (hb.mono hbel.size)
        clear hb
        go_wp2_with fail
        go_ret
        exact ⟨⟨k, rfl, by rw [HL.out]; exact decide_eq_true (by omega)⟩, hb1⟩
      · rw [hP] at HK0
        have HK : Hid _ := HK0
        have HPK : Hid _ := hP
        clear R hP HK0
        go_wp2_with fail
        refine (HK.out _).mono ?_
        rintro e w1 ⟨rfl, hb⟩
        have hb1 := hbel.trans (hb.mono hbel.size)
        clear hb
        go_wp2_with fail
        go_roundw
        case rel =>
          refine ⟨k + 1, by omega, by go_num, ?_, hb1⟩
          intro u hu
          rw [List.take_succ_eq_append_getElem hlt] at hu
          rcases List.mem_append.mp hu with h | h
          · exact HA.out u h
          · simp at h; subst h; exact HPK.out
        case measure => simp [intOf]; omega
    · have hlt2 : ¬ (k : Int) < (l.length : Int) := by omega
      have hal : l.all okPt = true := List.all_eq_true.mpr fun u hu => HA.out u (by rw [List.take_of_length_le (by omega)]; exact hu)
      have HL : Hid _ := hal
      clear hal
      go_wp2_with fail
      go_ret
      exact ⟨⟨-1, rfl, by rw [HL.out]; rfl⟩, hbel⟩
set_option maxRecDepth 4000 in
set_option maxHeartbeats 1000000 in
theorem anyWrongD_any (q : Option Addr) (qc : Nat) (l : List Prt) (w : World) (hr : RowD w q l) (hl : l.length ≤ 1048576) (hs : ∀ v ∈ l, szPt v) :
    Calls Tryd.prog 36 #[.slice q l.length qc, .func (.func 37) #[] #[]] w fun e w' => e = .returned (.bool (!(l.all okPt))) ∧ Below w.heap.size w w' := by
  have HI : Hid (Calls _ _ _ _ _) := idxWrongD_any q qc l w hr hl hs
  clear hr hs
  go_enter Tryd.func36, Tryd.ntmps36
  go_wp2_with fail
  refine HI.out.mono ?_
  rintro e w1 ⟨⟨i, rfl, hi⟩, hb⟩
  have HJ : Hid _ := hi
  clear hi HI
  go_wp2_with fail
  go_ret
  exact ⟨ret_bool' HJ.out, hb⟩

/-- A box of a definition: two cells. -/
structure BoxD (w W : World) (n : ByteArray) (v : Value) : Prop where
  bel : Below w.heap.size w W
  lt : w.heap.size < W.heap.size
  c0 : W.cell? ⟨w.heap.size, 0, none⟩ = some (.string n)
  c1 : W.cell? ⟨w.heap.size, 1, none⟩ = some v
theorem BoxD.start (w : World) (n : ByteArray) (v : Value) (T : TypeId) : BoxD w (w.alloc (.cells #[.string n, v] T)) n v :=
  ⟨(Below.refl _ _).alloc (Nat.le_refl _) _, by simp, by simp [go_sem], by simp [go_sem]⟩
theorem BoxD.step {w W W' : World} {n : ByteArray} {v : Value} (h : BoxD w W n v) (hb : Below W.heap.size W W') : BoxD w W' n v :=
  ⟨h.bel.trans (hb.mono h.bel.size), Nat.lt_of_lt_of_le h.lt hb.size, (hb.cell h.lt).trans h.c0, (hb.cell h.lt).trans h.c1⟩

end Go.Proofs.YtnmpfooegnmknaaDoor.Tr
