/- What the making of a reader of keys answers. -/
import Derived.Test.YtmchpaccdnnilaaSplJ
import Derived.Deep.RegionWith
namespace Go.Proofs.Ytmchpaccdnnilaa.Tr
open Go.RowKit
set_option linter.unusedVariables false
set_option linter.unusedSimpArgs false

theorem zcells : Try.zeroCells57 = #[.string em] ++ Array.replicate 256 (.int .i64 0) := by kernel_rfl
theorem firstByte0 (w : World) : Calls Try.prog 58 #[.int .i64 0] w fun e w' => e = .returned (.int .u8 1) ∧ w' = w := by
  go_enter Try.func58, Try.ntmps58
  go_wp2
  go_ret
  exact ⟨rfl, rfl⟩

theorem firstByte1 (w : World) : Calls Try.prog 58 #[.int .i64 1] w fun e w' => e = .returned (.int .u8 2) ∧ w' = w := by
  go_enter Try.func58, Try.ntmps58
  go_wp2
  go_ret
  exact ⟨rfl, rfl⟩
theorem firstByte2 (w : World) : Calls Try.prog 58 #[.int .i64 2] w fun e w' => e = .returned (.int .u8 3) ∧ w' = w := by
  go_enter Try.func58, Try.ntmps58
  go_wp2
  go_ret
  exact ⟨rfl, rfl⟩

/-- A reader's cells, k of its widths set. -/
noncomputable def rd0 (s : ByteArray) : Array Value := Try.zeroCells57.setIfInBounds 0 (.string s)
noncomputable def rd1 (s : ByteArray) : Array Value := (rd0 s).setIfInBounds 2 (.int .i64 1)
noncomputable def rd2 (s : ByteArray) : Array Value := (rd1 s).setIfInBounds 3 (.int .i64 2)
noncomputable def rd3 (s : ByteArray) : Array Value := (rd2 s).setIfInBounds 4 (.int .i64 9)
theorem rdA_0 (s : ByteArray) : (rd3 s)[0]? = some (.string s) := by simp [rd3, rd2, rd1, rd0, zcells]
theorem rdA_w (s : ByteArray) (i : Nat) (h : i < 256) : (rd3 s)[1 + i]? = some (.int .i64 (widN i)) := by
  by_cases h1 : i = 1
  · subst h1; simp [rd3, rd2, rd1, rd0, zcells, widN]
  by_cases h2 : i = 2
  · subst h2; simp [rd3, rd2, rd1, rd0, zcells, widN]
  by_cases h3 : i = 3
  · subst h3; simp [rd3, rd2, rd1, rd0, zcells, widN]
  have hw : widN i = 0 := by unfold widN; rw [if_neg h1, if_neg h2, if_neg h3]
  rw [hw]
  show (((rd0 s).setIfInBounds 2 _ |>.setIfInBounds 3 _).setIfInBounds 4 _)[1 + i]? = _
  rw [Array.getElem?_setIfInBounds_ne (by omega), Array.getElem?_setIfInBounds_ne (by omega), Array.getElem?_setIfInBounds_ne (by omega)]
  show (Try.zeroCells57.setIfInBounds 0 (.string s))[1 + i]? = _
  rw [Array.getElem?_setIfInBounds_ne (by omega), zcells, Array.getElem?_append_right (by simp)]
  simp [Array.getElem?_replicate, h]
theorem drew_set {w1 : World} {b o : Nat} {v : Value} {A : Array Value} {T : TypeId} (hh : w1.heap[b]? = some (.cells A T)) : ((w1.setCell ⟨b, o, none⟩ v).drew).heap[b]? = some (.cells (A.setIfInBounds o v) T) := set_blockR hh
theorem below_drew_set {w w1 : World} {o : Nat} {v : Value} (h : Below w.heap.size w w1) : Below w.heap.size w ((w1.setCell ⟨w.heap.size, o, none⟩ v).drew) := by (repeat (first | (with_reducible exact Below.refl _ _) | (with_reducible assumption) | (with_reducible apply below_drewN) | (with_reducible apply Below.drew) | ((with_reducible refine Below.setCell ?_ ?_ _); rotate_left; focus (first | (simp; done) | (simp; omega) | omega)) | ((with_reducible refine Below.alloc ?_ ?_ _); rotate_left; focus (first | (simp; done) | (simp; omega) | omega))))

set_option maxRecDepth 8000 in
set_option maxHeartbeats 1000000 in
theorem newReader_any (G : Nat) (m : Int) (s : ByteArray) (w : World) (hg : G < w.heap.size) (hm : w.cell? ⟨G, 0, none⟩ = some (.int .i64 m)) :
    Calls Try.prog 25 #[.string s] w fun e w' => e = .returned (.pointer (some ⟨w.heap.size, 0, none⟩)) ∧ Below w.heap.size w w' ∧ Rd w' G w.heap.size m s := by
  have HG : Hid _ := hm
  clear hm
  go_enter Try.func25, Try.ntmps25
  go_wp2
  obtain ⟨w1, hw1⟩ : ∃ w1, w1 = w.alloc (.cells (Try.zeroCells57.setIfInBounds 0 (.string s)) 57) := ⟨_, rfl⟩
  rw [← hw1]
  have hh : w1.heap[w.heap.size]? = some (.cells (rd0 s) 57) := by rw [hw1]; exact heap_alloc_new w _
  have hb1 : Below w.heap.size w w1 := by rw [hw1]; exact (Below.refl _ _).alloc (Nat.le_refl _) _
  have c2 : w1.cell? ⟨w.heap.size, 2, none⟩ = some (.int .i64 0) := by simp [World.cell?, hh, rd3, rd2, rd1, rd0, zcells]
  have f2 : w1.frozen? ⟨w.heap.size, 2, none⟩ = false := by simp [World.frozen?, hh]
  have HB : Hid (Below _ _ _) := hb1
  have HH : Hid _ := hh
  clear hh hw1 hb1
  go_region_with (go_at_call 58; refine (firstByte0 _).mono ?_; rintro e w2 ⟨rfl, rfl⟩)
  obtain ⟨w2, hw2⟩ : ∃ w2, w2 = (w1.setCell ⟨w.heap.size, 2, none⟩ (.int .i64 1)).drew := ⟨_, rfl⟩
  rw [← hw2]
  have hh2 : w2.heap[w.heap.size]? = some (.cells (rd1 s) 57) := by rw [hw2]; exact drew_set HH.out
  have hb2 : Below w.heap.size w w2 := by rw [hw2]; exact below_drew_set HB.out
  have c3 : w2.cell? ⟨w.heap.size, 3, none⟩ = some (.int .i64 0) := by simp [World.cell?, hh2, rd3, rd2, rd1, rd0, zcells]
  have f3 : w2.frozen? ⟨w.heap.size, 3, none⟩ = false := by simp [World.frozen?, hh2]
  have HB2 : Hid (Below _ _ _) := hb2
  have HH2 : Hid _ := hh2
  clear hh2 hw2 hb2 c2 f2
  go_wp2_with fail
  go_region_with (go_at_call 58; refine (firstByte1 _).mono ?_; rintro e w3 ⟨rfl, rfl⟩)
  obtain ⟨w3, hw3⟩ : ∃ w3, w3 = (w2.setCell ⟨w.heap.size, 3, none⟩ (.int .i64 2)).drew := ⟨_, rfl⟩
  rw [← hw3]
  have hh3 : w3.heap[w.heap.size]? = some (.cells (rd2 s) 57) := by rw [hw3]; exact drew_set HH2.out
  have hb3 : Below w.heap.size w w3 := by rw [hw3]; exact below_drew_set HB2.out
  have c4 : w3.cell? ⟨w.heap.size, 4, none⟩ = some (.int .i64 0) := by simp [World.cell?, hh3, rd3, rd2, rd1, rd0, zcells]
  have f4 : w3.frozen? ⟨w.heap.size, 4, none⟩ = false := by simp [World.frozen?, hh3]
  have HB3 : Hid (Below _ _ _) := hb3
  have HH3 : Hid _ := hh3
  clear hh3 hw3 hb3 c3 f3
  go_wp2_with fail
  go_region_with (go_at_call 58; refine (firstByte2 _).mono ?_; rintro e w4 ⟨rfl, rfl⟩)
  obtain ⟨w4, hw4⟩ : ∃ w4, w4 = (w3.setCell ⟨w.heap.size, 4, none⟩ (.int .i64 9)).drew := ⟨_, rfl⟩
  rw [← hw4]
  have hh4 : w4.heap[w.heap.size]? = some (.cells (rd3 s) 57) := by rw [hw4]; exact drew_set HH3.out
  have hb4 : Below w.heap.size w w4 := by rw [hw4]; exact below_drew_set HB3.out
  have HB4 : Hid (Below _ _ _) := hb4
  have HH4 : Hid _ := hh4
  clear hh4 hw4 hb4 c4 f4
  go_wp2_with fail
  go_ret
  exact ⟨rfl, HB4.out, ⟨⟨rd3 s, HH4.out, rdA_0 s, rdA_w s⟩, hg, by rw [HB4.out.cell hg]; exact HG.out⟩⟩

end Go.Proofs.Ytmchpaccdnnilaa.Tr
