/- How the program and the specification lay numbers into bytes. -/
import Derived.Test.YtdchhjnmhnehiaaGreatDoorOKD
import Derived.Laws.BytesArg
import Derived.Laws.OwnMore
import Derived.Maps.AppendAt
import Derived.Maps.Range
namespace Go.Proofs.YtdchhjnmhnehiaaGreatDoor
open Go.RowKit
set_option linter.unusedVariables false

theorem infoE : (Tryz.prog.info? 5).map (fun i => (i.zero, i.size, i.bytes)) = some (some (.int .u8 0), 1, 1) := by kernel_rfl
def rowE (zs : List Int) : List Value := zs.map (Value.int .u8)
theorem rowE_append (a b : List Int) : rowE (a ++ b) = rowE a ++ rowE b := by unfold rowE; simp
theorem rowE_len (a : List Int) : (rowE a).length = a.length := by unfold rowE; simp
/-- The byte of a number that j others stand behind. -/
def nb (n : Int) (j : Nat) : Int := n / 2 ^ (8 * j) % 256
/-- The first k of a number's wd bytes. -/
def numK (n : Int) (wd k : Nat) : List Int := (List.range k).map fun j => nb n (wd - 1 - j)
def numB (n : Int) (wd : Nat) : List Int := numK n wd wd
theorem numK_len (n : Int) (wd k : Nat) : (numK n wd k).length = k := by unfold numK; simp
theorem numK_succ (n : Int) (wd k : Nat) : numK n wd (k + 1) = numK n wd k ++ [nb n (wd - 1 - k)] := by unfold numK; rw [List.range_succ]; simp
theorem numK_zero (n : Int) (wd : Nat) : numK n wd 0 = [] := rfl
/-- The slice value v owns the bytes zs. -/
def OwnE (w : World) (base : Nat) (v : Value) (zs : List Int) : Prop := w.ownsRow base 5 1 v zs.length (rowE zs)
/-- From w to w' nothing old but v's row has turned, and v' lies there or is new. -/
def Grew (w w' : World) (v v' : Value) : Prop := w.grownBy w' v.ownBlock ∧ (v'.ownBlock = v.ownBlock ∨ ∃ g, w.heap.size ≤ g ∧ v'.ownBlock = some g)
theorem Grew.refl (w : World) (v : Value) : Grew w w v v := ⟨World.grownBy.refl _ _, .inl rfl⟩
theorem Grew.trans {a b c : World} {u v x : Value} (h : Grew a b u v) (k : Grew b c v x) : Grew a c u x := by
  refine ⟨h.1.andThen k.1 (fun j hj => ?_), ?_⟩
  · rcases h.2 with h2 | ⟨g, hg, h2⟩
    · exact .inr (h2.symm.trans hj)
    · rw [h2] at hj; injection hj with hj; subst hj; exact .inl hg
  · rcases k.2 with k2 | ⟨g, hg, k2⟩
    · rcases h.2 with h2 | ⟨g, hg, h2⟩
      · exact .inl (k2.trans h2)
      · exact .inr ⟨g, hg, k2.trans h2⟩
    · exact .inr ⟨g, Nat.le_trans h.1.size hg, k2⟩
theorem Grew.alloc {a b : World} {u v : Value} (h : Grew a b u v) (o : Obj) : Grew a (b.alloc o) u v :=
  h.trans ⟨World.grownBy_alloc _ _ _, .inl rfl⟩
theorem Grew.below {w w' : World} {v v' : Value} {base : Nat} {zs : List Int} (h : Grew w w' v v') (ho : OwnE w base v zs) (hb : base ≤ w.heap.size) : Below base w w' :=
  Below.grown (Below.refl _ _) h.1 hb (fun k hk => (World.ownsRow.lt ho k hk).1)

set_option maxRecDepth 4000 in
set_option maxHeartbeats 1000000 in
theorem appendNumber_any (bv : Value) (zs : List Int) (base : Nat) (n : Int) (wd : Nat) (w : World) (hown : OwnE w base bv zs) (hbase : base ≤ w.heap.size) (hlen : zs.length ≤ 1048576) (hw : wd ≤ 8) :
    Calls Tryz.prog 142 #[bv, .int .i64 n, .int .i64 wd] w fun e w' => ∃ v', e = .returned v' ∧ OwnE w' base v' (zs ++ numB n wd) ∧ Grew w w' bv v' := by
  obtain ⟨i0, hi, hz0, hz1, hz2⟩ := info_parts infoE
  have HO : Hid _ := hown
  clear hown
  go_enter Tryz.func142, Tryz.ntmps142
  go_wp2_with fail
  go_loopw [0, 7] (fun v i wr => ∃ k : Nat, k ≤ wd ∧ i = .int .i64 ((wd : Int) - 1 - k) ∧ OwnE wr base v (zs ++ numK n wd k) ∧ Grew w wr bv v) (fun _ i _ => (intOf i + 1).toNat)
  case atStart => exact ⟨0, Nat.zero_le _, by go_num, by rw [numK_zero, List.append_nil]; exact HO.out, Grew.refl _ _⟩
  case round =>
    obtain ⟨k, hk, rfl, hown1, hgr⟩ := hrel
    have hsz := hgr.1.size
    have G1 : Hid (Grew _ _ _ _) := hgr
    clear hgr
    by_cases hlt : k < wd
    · have h0 : (0 : Int) ≤ (wd : Int) - 1 - k := by omega
      have h8 : 0 ≤ 8 * ((wd : Int) - 1 - k) := by omega
      have hl1 : (zs ++ numK n wd k).length = zs.length + k := by rw [List.length_append, numK_len]
      go_wp2_with (at_builtin; refine wpList_append_own_at _ rfl (.tmp 14) (.tmp 20) 22 rfl base 5 i0 (.int .u8 0) 1 1 Tryz.underlying22 hi hz0 hz1 hz2 rfl (by decide) _ _ _ rfl (World.ownsRow.alloc hown1 _) ⟨wr.heap.size, 0, none⟩ 1 1 [.int .u8 (nb n (wd - 1 - k))] rfl rfl (cell_one_new _ _ _) (by intro u hu; simp at hu; subst hu; rfl) (by rw [hl1]; unfold maxLen; omega) (by rw [hl1]; omega) (by simp; omega) ?_)
      intro v' w2 hown2 hgrow hnil hat
      have G2 : Hid (Grew w w2 bv v') := (G1.out.alloc _).trans ⟨hgrow, by rcases hat with h | h; exact .inl h; exact .inr ⟨wr.heap.size + 1, by simp, h⟩⟩
      have O2 : Hid (OwnE w2 base v' (zs ++ numK n wd (k + 1))) := by
        show w2.ownsRow _ _ _ _ _ _
        rw [show (zs ++ numK n wd (k + 1)).length = zs.length + k + 1 by rw [List.length_append, numK_len]; omega, numK_succ, ← List.append_assoc, rowE_append]
        exact hown2
      clear hown2 hgrow hnil hat hown1 G1
      go_wp2_with fail
      go_roundw
      case rel => exact ⟨k + 1, by omega, by go_num, O2.out, G2.out⟩
      case measure => simp [intOf]; omega
    · obtain rfl : k = wd := by omega
      have h0 : ¬ (0 : Int) ≤ (k : Int) - 1 - k := by omega
      have O1 : Hid (OwnE _ _ _ _) := hown1
      clear hown1
      go_wp2_with fail
      go_ret
      exact ⟨u0, rfl, O1.out, G1.out⟩

/-- The text that numbers are, a byte each. -/
def txt (zs : List Int) : ByteArray := strOfNums zs
theorem convE (v : Value) (zs : List Int) (base : Nat) (w : World) (hv : v ≠ .slice none 0 0) (hown : OwnE w base v zs) : (convert 22 9 v).run Tryz.prog w = .ok (.string (txt zs)) w := by
  obtain ⟨g, cap, rfl⟩ := owns_shape hown hv
  refine run_convert_bytes_arg w 22 5 Tryz.underlying22 Tryz.underlying5 g 0 zs.length cap zs rfl (fun i hi => ?_) 9 Tryz.underlying9
  rw [Nat.zero_add]
  refine owns_cell hown i _ ?_
  unfold rowE; rw [List.getElem?_map, List.getElem?_eq_getElem hi, List.getD_eq_getElem?_getD, List.getElem?_eq_getElem hi]; rfl

set_option maxRecDepth 4000 in
set_option maxHeartbeats 1000000 in
theorem l01Number_any (n : Int) (wd : Nat) (w : World) (hw : wd ≤ 8) :
    Calls Tryz.prog 87 #[.int .i64 n, .int .i64 wd] w fun e w' => e = .returned (.string (txt (numB n wd))) ∧ Below w.heap.size w w' := by
  obtain ⟨i0, hi, hz0, hz1, hz2⟩ := info_parts infoE
  go_enter Tryz.func87, Tryz.ntmps87
  go_wp2_with fail
  go_loopw [5, 6] (fun v i wr => ∃ k : Nat, k ≤ wd ∧ i = .int .i64 ((wd : Int) - 1 - k) ∧ OwnE wr w.heap.size v (numK n wd k) ∧ v ≠ .slice none 0 0 ∧ Below w.heap.size w wr) (fun _ i _ => (intOf i + 1).toNat)
  case atStart => exact ⟨0, Nat.zero_le _, by go_num, World.ownsRow_made w #[] 0 (Nat.le_refl _) (by unfold maxLen; omega) rfl, by simp, (Below.refl _ _).alloc (Nat.le_refl _) _⟩
  case round =>
    obtain ⟨k, hk, rfl, hown1, hnn, hbel⟩ := hrel
    have hsz := hbel.size
    have HN : Hid _ := hnn
    clear hnn
    by_cases hlt : k < wd
    · have h0 : (0 : Int) ≤ (wd : Int) - 1 - k := by omega
      have h8 : 0 ≤ 8 * ((wd : Int) - 1 - k) := by omega
      have h9 : 8 * ((wd : Int) - 1 - k) ≤ 56 := by omega
      have hl1 : (numK n wd k).length = k := numK_len _ _ _
      go_wp2_with (at_builtin; refine wpList_append_own_at _ rfl (.tmp 14) (.tmp 21) 22 rfl w.heap.size 5 i0 (.int .u8 0) 1 1 Tryz.underlying22 hi hz0 hz1 hz2 rfl (by decide) _ _ _ rfl (World.ownsRow.alloc hown1 _) ⟨wr.heap.size, 0, none⟩ 1 1 [.int .u8 (nb n (wd - 1 - k))] rfl rfl (cell_one_new _ _ _) (by intro u hu; simp at hu; subst hu; rfl) (by rw [hl1]; unfold maxLen; omega) (by rw [hl1]; omega) (by simp; omega) ?_)
      intro v' w2 hown2 hgrow hnil hat
      have hbl : ∀ j, u5.ownBlock = some j → w.heap.size ≤ j := fun j hj => (World.ownsRow.lt hown1 j hj).1
      have B2 : Hid (Below w.heap.size w w2) := Below.grown (hbel.alloc hsz _) hgrow (by simp; omega) hbl
      have O2 : Hid (OwnE w2 w.heap.size v' (numK n wd (k + 1))) := by
        show w2.ownsRow _ _ _ _ _ _
        rw [show (numK n wd (k + 1)).length = k + 1 from numK_len _ _ _, numK_succ, rowE_append]
        exact hown2
      have N2 : Hid (v' ≠ .slice none 0 0) := by
        intro h; have := hnil; simp [h] at this
      clear hown2 hgrow hnil hat hown1 hbl hbel
      go_wp2_with fail
      go_roundw
      case rel => exact ⟨k + 1, by omega, by go_num, O2.out, N2.out, B2.out⟩
      case measure => simp [intOf]; omega
    · obtain rfl : k = wd := by omega
      have h0 : ¬ (0 : Int) ≤ (k : Int) - 1 - k := by omega
      have hcv := convE _ _ _ _ HN.out hown1
      clear hown1
      go_wp2_with fail
      go_ret
      exact ⟨rfl, hbel⟩

end Go.Proofs.YtdchhjnmhnehiaaGreatDoor
