/- What the two functions that tell a value's key answer, for every value. -/
import Derived.Test.YtdchhjnmhnehiaaGreatDoorKeyS
import Derived.Test.YtdchhjnmhnehiaaGreatDoorKeyJ
namespace Go.Proofs.YtdchhjnmhnehiaaGreatDoor
open Go.RowKit
set_option linter.unusedVariables false

theorem key_size (v : Val) (h : fits 5 v = true) : (mkB (keyV 5 v)).size ≤ 6622 := by
  rw [mkB_size]
  have h1 := keyV_len 5 v h
  have h2 : v.t.size ≤ 300 := by
    have h3 : okB v = true := h
    rcases Nat.lt_or_ge 300 v.t.size with h' | h'
    · rw [ok_big v h'] at h3; cases h3
    · exact h'
  omega
set_option maxRecDepth 4000 in
set_option maxHeartbeats 1000000 in
theorem l04Key_any (v : Val) (desc : Bool) (w : World) (h : fits 5 v = true) :
    Calls Tryz.prog 71 #[.agg #[.int .i64 v.k, .int .i64 v.n, .string v.t], .bool desc] w fun e w' => e = .returned (.string (mkB (dirK desc (keyV 5 v)))) ∧ Below w.heap.size w w' := by
  have X0 := Boxed.start w (.int .i64 v.k) (.int .i64 v.n) (.string v.t) 38
  have HR : Hid (∀ W : World, Calls _ _ _ W _) := fun W => raw_at 5 v W h
  have hT := fun W : World => l04Turn_any (mkB (keyV 5 v)) W (by have := key_size v h; omega)
  rw [mkB_data] at hT
  have HT : Hid (∀ W : World, Calls _ _ _ W _) := hT
  clear hT
  cases desc
  · show Calls _ _ _ _ fun e w' => e = .returned (.string (mkB (keyV 5 v))) ∧ Below w.heap.size w w'
    go_enter Tryz.func71, Tryz.ntmps71
    go_wp2_with (go_at_call 100; refine (HR.out _).mono ?_; rintro e w1 ⟨rfl, hb⟩; have X := Boxed.step (by assumption) hb; have g0 := X.c0; have g1 := X.c1; have g2 := X.c2; clear hb)
    go_ret
    exact ⟨rfl, X.bel⟩
  · show Calls _ _ _ _ fun e w' => e = .returned (.string (mkB (turnL (keyV 5 v)))) ∧ Below w.heap.size w w'
    go_enter Tryz.func71, Tryz.ntmps71
    go_wp2_with (first | (go_at_call 100; refine (HR.out _).mono ?_; rintro e w1 ⟨rfl, hb⟩; have X := Boxed.step (by assumption) hb; have g0 := X.c0; have g1 := X.c1; have g2 := X.c2; clear hb) | (go_at_call 99; refine (HT.out _).mono ?_; rintro e w2 ⟨rfl, hb⟩; have X := Boxed.step (by assumption) hb; have g0 := X.c0; have g1 := X.c1; have g2 := X.c2; clear hb))
    go_ret
    exact ⟨rfl, X.bel⟩
/-- The first q bytes the other way round, the others as they were. -/
def turnQ (l : List UInt8) (q : Nat) : List UInt8 := turnL (l.take q) ++ l.drop q
theorem turnQ_zero (l : List UInt8) : turnQ l 0 = l := by simp [turnQ, turnL]
theorem turnQ_all (l : List UInt8) : turnQ l l.length = turnL l := by simp [turnQ]
theorem turnQ_len (l : List UInt8) (q : Nat) (h : q ≤ l.length) : (turnQ l q).length = l.length := by
  unfold turnQ; rw [List.length_append, turnL_len, List.length_take, List.length_drop]; omega
theorem turnQ_get (l : List UInt8) (q : Nat) (h : q < l.length) : (Lib.byteCells (turnQ l q))[q]? = some (.int .u8 (l[q].toNat : Nat)) := by
  unfold turnQ Lib.byteCells
  have hl : (turnL (l.take q)).length = q := by rw [turnL_len, List.length_take]; omega
  rw [List.map_append, List.getElem?_append_right (by simp [hl]), List.length_map, hl, Nat.sub_self, List.drop_eq_getElem_cons h]
  rfl
theorem turnQ_set (l : List UInt8) (q : Nat) (h : q < l.length) : (Lib.byteCells (turnQ l q)).set q (.int .u8 (255 - ((l[q].toNat : Nat) : Int))) = Lib.byteCells (turnQ l (q + 1)) := by
  have hl : (turnL (l.take q)).length = q := by rw [turnL_len, List.length_take]; omega
  unfold turnQ Lib.byteCells
  rw [List.map_append, List.set_append_right _ _ (by simp [hl]), List.length_map, hl, Nat.sub_self, List.drop_eq_getElem_cons h]
  have e : turnL (l.take (q + 1)) = turnL (l.take q) ++ [255 - l[q]] := by unfold turnL; rw [List.take_succ_eq_append_getElem h, List.map_append]; rfl
  rw [e, List.map_append, List.map_append, List.append_assoc]
  congr 1
  rw [List.map_cons, List.set_cons_zero, ← turn_nat]
  rfl
set_option maxRecDepth 4000 in
set_option maxHeartbeats 1000000 in
theorem directed_any (g cap B : Nat) (l : List UInt8) (desc : Bool) (w : World) (hown : w.ownsRow B 5 1 (.slice (some ⟨g, 0, none⟩) l.length cap) l.length (Lib.byteCells l)) (hB : B ≤ w.heap.size) (hlen : l.length ≤ 100000) :
    Calls Tryz.prog 123 #[.slice (some ⟨g, 0, none⟩) l.length cap, .bool desc] w fun e w' => e = .returned (.string (mkB (dirK desc l))) ∧ Below B w w' := by
  cases desc
  · show Calls _ _ _ _ fun e w' => e = .returned (.string (mkB l)) ∧ Below B w w'
    have hcv := convT w _ l _ hown
    clear hown
    go_enter Tryz.func123, Tryz.ntmps123
    go_wp2_with fail
    go_ret
    exact ⟨rfl, Below.refl _ _⟩
  · show Calls _ _ _ _ fun e w' => e = .returned (.string (mkB (turnL l))) ∧ Below B w w'
    have HO : Hid (World.ownsRow _ _ _ _ _ _ _) := hown
    have hBg := (hown.lt g rfl).1
    clear hown
    go_enter Tryz.func123, Tryz.ntmps123
    go_wp2_with fail
    go_loopw [9] (fun i wr => ∃ q : Nat, q ≤ l.length ∧ i = .int .i64 q ∧ wr.ownsRow B 5 1 (.slice (some ⟨g, 0, none⟩) l.length cap) l.length (Lib.byteCells (turnQ l q)) ∧ w.grownBy wr (some g)) (fun i _ => l.length - (intOf i).toNat)
    case atStart => exact ⟨0, Nat.zero_le _, rfl, by rw [turnQ_zero]; exact HO.out, World.grownBy.refl _ _⟩
    case round =>
      obtain ⟨q, hq, rfl, hown, hgr⟩ := hrel
      by_cases hlt : q < l.length
      · have c2 : wr.cell? ⟨g, q, none⟩ = some (.int .u8 (l[q].toNat : Nat)) := by
          rw [World.ownsRow.cellAt hown q (by omega)]; exact turnQ_get l q hlt
        have f2 := World.ownsRow.frozenAt hown q
        have hst := World.ownsRow.stored hown q (.int .u8 (255 - ((l[q].toNat : Nat) : Int)))
        rw [turnQ_set l q hlt] at hst
        have hc := l[q].toNat_lt
        have hw : IntKind.u8.wrap (255 - ((l[q].toNat : Nat) : Int)) = 255 - ((l[q].toNat : Nat) : Int) := by simp only [IntKind.wrap, IntKind.bits, IntKind.signed]; simp; omega
        have HS : Hid _ := hst.1
        have HG : Hid _ := hgr.trans hst.2
        clear hst hown hgr
        go_wp2_with fail
        go_roundw
        case rel => exact ⟨q + 1, by omega, by go_num, HS.out, HG.out⟩
        case measure => simp [intOf]; omega
      · obtain rfl : q = l.length := by omega
        rw [turnQ_all] at hown
        have hown' : wr.ownsRow B 5 1 (.slice (some ⟨g, 0, none⟩) l.length cap) (turnL l).length (Lib.byteCells (turnL l)) := by rw [turnL_len]; exact hown
        have hcv := convT wr _ (turnL l) _ hown'
        clear hown hown'
        go_wp2_with fail
        go_ret
        exact ⟨rfl, Below.grown (Below.refl _ _) hgr hB (fun j hj => by injection hj with hj; omega)⟩

theorem keyV_ne (d : Nat) (v : Val) : keyV d v ≠ [] := by
  cases d with
  | zero => simp [keyV, baseK]
  | succ d => rw [keyV]; split; simp; split; simp; simp [baseK]
set_option maxRecDepth 4000 in
set_option maxHeartbeats 1000000 in
theorem keyOf_any (v : Val) (desc : Bool) (w : World) (h : fits 5 v = true) :
    Calls Tryz.prog 97 #[.agg #[.int .i64 v.k, .int .i64 v.n, .string v.t], .bool desc] w fun e w' => e = .returned (.string (mkB (dirK desc (keyV 5 v)))) ∧ Below w.heap.size w w' := by
  have X0 := Boxed.start w (.int .i64 v.k) (.int .i64 v.n) (.string v.t) 38
  have hz := key_size v h
  rw [mkB_size] at hz
  have HF : Hid _ := h
  clear h
  go_enter Tryz.func97, Tryz.ntmps97
  go_wp2_with fail
  refine (key_at 5 v w.heap.size 0 _ [] _ HF.out (World.ownsRow_nil _ _ _ _) (by simp) (by omega)).mono ?_
  rintro e w2 ⟨v2, rfl, o2, b2, k2⟩
  rw [Nat.zero_add, List.nil_append] at o2
  have hbw := ((Below.refl w.heap.size w).alloc (Nat.le_refl _) (.cells #[.int .i64 v.k, .int .i64 v.n, .string v.t] 38)).trans b2
  have hz2 := hbw.size
  obtain ⟨g, cap, rfl⟩ : ∃ g cap, v2 = .slice (some ⟨g, 0, none⟩) (keyV 5 v).length cap := by
    rcases o2.2 with ⟨_, h0⟩ | ⟨g, cap, cur, h1, _⟩
    · exact absurd (List.eq_nil_of_length_eq_zero h0) (keyV_ne 5 v)
    · exact ⟨g, cap, h1⟩
  have HO : Hid (World.ownsRow _ _ _ _ _ _ _) := o2
  clear o2 k2 b2 X0
  go_wp2_with fail
  refine (directed_any g cap w.heap.size (keyV 5 v) desc _ HO.out hz2 (by omega)).mono ?_
  rintro e w3 ⟨rfl, hb⟩
  go_wp2_with fail
  go_ret
  exact ⟨rfl, hbw.trans hb⟩
end Go.Proofs.YtdchhjnmhnehiaaGreatDoor
