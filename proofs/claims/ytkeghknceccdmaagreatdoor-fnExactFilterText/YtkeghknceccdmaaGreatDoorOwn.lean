/- A copy of a text is the same text, in new memory; so is a value with it. -/
import Derived.Test.YtkeghknceccdmaaGreatDoorRowV
import Derived.Test.YtkeghknceccdmaaGreatDoorEncI
import Derived.Lib.Walk
import Derived.Lib.BufferWrite
import Derived.Lib.UnsafeStr
import Derived.Laws.MakeOwn
namespace Go.Proofs.YtkeghknceccdmaaGreatDoor
open Go.RowKit
set_option linter.unusedVariables false

set_option maxRecDepth 4000 in
set_option maxHeartbeats 1000000 in
theorem clone_none (w : World) : Calls Tryz.prog 104 #[.string em] w fun e w' => e = .returned (.string em) ∧ Below w.heap.size w w' := by
  go_enter Tryz.func104, Tryz.ntmps104
  go_wp2
  go_ret
  exact ⟨rfl, Below.refl _ _⟩
theorem list_of_bytes (s : ByteArray) : (⟨s.data.toList.toArray⟩ : ByteArray) = s := by cases s; simp
set_option maxRecDepth 4000 in
set_option maxHeartbeats 2000000 in
theorem clone_some (s : ByteArray) (w : World) (h0 : 0 < s.size) (hs : s.size ≤ 1048576) :
    Calls Tryz.prog 104 #[.string s] w fun e w' => e = .returned (.string s) ∧ Below w.heap.size w w' := by
  obtain ⟨i0, hi, hz0, hz1, hz2⟩ := info_parts infoB
  have hone : (Tryz.prog.info? 5).map (·.size) = some 1 := by rw [hi]; simp [hz1]
  have hcell1 : Tryz.prog.cellsOf 5 = 1 := by simp [Program.cellsOf, hi, hz1]
  have hll : s.data.toList.length = s.size := toList_length s
  obtain ⟨M, hM, hMs⟩ : ∃ M : Array Value, (∀ W : World, (Instr.makeSlice 22 (.int .i64 (s.size : Int)) (.int .i64 (s.size : Int))).run Tryz.prog W = .ok (.slice (some ⟨W.heap.size, 0, none⟩) s.size s.size) (W.alloc (.cells M 5))) ∧ M.size = s.size := by
    refine ⟨madeCells (Value.int .u8 0).cells (((s.size : Nat) : Int).toNat * i0.size), fun W => ?_, by rw [size_madeCells, hz1]; simp⟩
    have := run_make (P := Tryz.prog) W 22 5 i0 (.int .u8 0) Tryz.underlying22 hi hz0 .i64 .i64 (s.size : Int) (s.size : Int) (by omega) (by omega) (by rw [hz2]; omega) (by omega)
    simpa using this
  have hcopy := Lib.run_copy_row_string (P := Tryz.prog) (w.alloc (.cells M 5)) 22 9 3 5 w.heap.size 0 s.size s.size s M 5 Tryz.underlying22 hone (heap_alloc_new w _) (Nat.le_refl _) (by omega)
  obtain ⟨Y, hY, hYl⟩ : ∃ Y : Array Value, Y = (M.toList.take 0 ++ Lib.byteCells s.data.toList ++ M.toList.drop (0 + s.size)).toArray ∧ Y.toList = Lib.byteCells s.data.toList :=
    ⟨_, rfl, by rw [List.toList_toArray, List.take_zero, List.nil_append, List.drop_of_length_le (by rw [Array.length_toList]; omega), List.append_nil]⟩
  rw [← hY] at hcopy
  have hYs : Y.size = s.size := by rw [← Array.length_toList, hYl, Lib.byteCells_length, hll]
  have hrow : ((w.alloc (.cells M 5)).setRow w.heap.size Y).heap[w.heap.size]? = some (.cells Y 5 (0, 0)) := setRow_heap _ _ M _ 5 (0, 0) (heap_alloc_new w _)
  have hun := Lib.run_unsafeString_row (P := Tryz.prog) ((w.alloc (.cells M 5)).setRow w.heap.size Y) 215 3 9 5 Tryz.underlying215 hcell1 w.heap.size Y.size (by unfold World.shape?; rw [hrow]) s.data.toList (fun e => by rw [e] at hll; simp at hll; omega) (by omega) (by omega)
    (fun j x hx => Lib.cells_of_row hrow Y.size j _ (by rw [List.take_of_length_le (by rw [Array.length_toList]; exact Nat.le_refl _), hYl]; simp [Lib.byteCells, hx]))
  rw [hll, list_of_bytes] at hun
  have b1 : Below w.heap.size w (w.alloc (.cells M 5)) := (Below.refl _ w).alloc (Nat.le_refl _) _
  have b2 : Below w.heap.size (w.alloc (.cells M 5)) ((w.alloc (.cells M 5)).setRow w.heap.size Y) := ⟨rfl, rfl, rfl, by simp, fun k hk => setRow_other _ _ _ _ (by omega)⟩
  have HB : Hid _ := Lib.below_freeze (b1.trans b2) (p := ⟨w.heap.size, 0, none⟩) (Nat.le_refl _) s.size
  clear hY b1 b2
  go_enter Tryz.func104, Tryz.ntmps104
  go_wp2
  go_ret
  exact ⟨rfl, HB.out⟩
theorem clone_any (s : ByteArray) (w : World) (hs : s.size ≤ 1048576) :
    Calls Tryz.prog 104 #[.string s] w fun e w' => e = .returned (.string s) ∧ Below w.heap.size w w' := by
  by_cases h : 0 < s.size
  · exact clone_some s w h hs
  · obtain rfl := empty_of s (by omega)
    exact clone_none w
theorem strClone_any (s : ByteArray) (w : World) (hs : s.size ≤ 1048576) :
    Calls Tryz.prog 45 #[.string s] w fun e w' => e = .returned (.string s) ∧ Below w.heap.size w w' := by
  go_enter Tryz.func45, Tryz.ntmps45
  go_wp2_with (go_at_call 104; refine (clone_any s _ hs).mono ?_; rintro e w1 ⟨rfl, hb⟩)
  go_ret
  exact ⟨rfl, hb⟩
set_option maxRecDepth 4000 in
set_option maxHeartbeats 1000000 in
theorem ownValue_any (k n : Int) (t : ByteArray) (w : World) (hs : t.size ≤ 1048576) :
    Calls Tryz.prog 228 #[.agg #[.int .i64 k, .int .i64 n, .string t]] w fun e w' => e = .returned (.agg #[.int .i64 k, .int .i64 n, .string t]) ∧ Below w.heap.size w w' := by
  have X0 := Res3.start w (.int .i64 k) (.int .i64 n) (.string t) 28
  have Y0 := Res3.start (w.alloc (.cells #[.int .i64 k, .int .i64 n, .string t] 28)) (.int .i64 0) (.int .i64 0) (.string em) 28
  have X1 := X0.step Y0.bel
  go_enter Tryz.func228, Tryz.ntmps228
  go_wp2_with fail
  refine (strClone_any t _ hs).mono ?_
  rintro e w1 ⟨rfl, hb⟩
  have Y := Y0.step hb
  have X := X1.step hb
  have a0 := X.c0
  have a1 := X.c1
  have a2 := X.c2
  have f0 := X.z0
  have f1 := X.z1
  have f2 := X.z2
  have g0 := Y.c0
  have g1 := Y.c1
  have g2 := Y.c2
  have z0 := Y.z0
  have z1 := Y.z1
  have z2 := Y.z2
  have hlt := Y.lt
  have hbw : Below w.heap.size w w1 := ((Below.refl _ _).alloc (Nat.le_refl _) _).trans (Y.bel.mono (by simp))
  simp only [heap_size_alloc] at g0 g1 g2 z0 z1 z2 hlt
  clear hb Y Y0 X X0 X1
  go_wp2_with fail
  refine bodyPost_ret (v := .agg #[.int .i64 k, .int .i64 n, .string t]) (by simp [results, Tryz.results228, go_sem, *]) rfl ⟨rfl, ?_⟩
  (repeat (first | (with_reducible exact Below.refl _ _) | (with_reducible assumption) | (with_reducible apply below_drewN) | (with_reducible apply Below.drew) | ((with_reducible refine Below.setCell ?_ ?_ _); rotate_left; focus (first | (simp; done) | (simp; omega) | omega)) | ((with_reducible refine Below.alloc ?_ ?_ _); rotate_left; focus (first | (simp; done) | (simp; omega) | omega))))

end Go.Proofs.YtkeghknceccdmaaGreatDoor
