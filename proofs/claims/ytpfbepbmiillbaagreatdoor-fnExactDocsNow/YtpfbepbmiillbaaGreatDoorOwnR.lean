/- A copy of a text is the same text, in new memory; so is a value with it. -/
import Derived.Test.YtpfbepbmiillbaaGreatDoorRowVR
import Derived.Test.YtpfbepbmiillbaaGreatDoorEncR
import Derived.Lib.Walk
import Derived.Lib.BufferWrite
import Derived.Lib.UnsafeStr
import Derived.Laws.MakeOwn
import Derived.Test.YtpfbepbmiillbaaGreatDoorInQ
import Derived.Test.YtpfbepbmiillbaaGreatDoorFindMR
namespace Go.Proofs.YtpfbepbmiillbaaGreatDoor
open Go.RowKit
set_option linter.unusedVariables false

set_option maxRecDepth 4000 in
set_option maxHeartbeats 1000000 in
theorem clone_none (w : World) : Calls Tryz.prog 192 #[.string em] w fun e w' => e = .returned (.string em) ∧ Below w.heap.size w w' := by
  go_enter Tryz.func192, Tryz.ntmps192
  go_wp2
  go_ret
  exact ⟨rfl, Below.refl _ _⟩
theorem list_of_bytes (s : ByteArray) : (⟨s.data.toList.toArray⟩ : ByteArray) = s := by cases s; simp
set_option maxRecDepth 4000 in
set_option maxHeartbeats 2000000 in
theorem clone_some (s : ByteArray) (w : World) (h0 : 0 < s.size) (hs : s.size ≤ 1048576) :
    Calls Tryz.prog 192 #[.string s] w fun e w' => e = .returned (.string s) ∧ Below w.heap.size w w' := by
  obtain ⟨i0, hi, hz0, hz1, hz2⟩ := info_parts infoB
  have hone : (Tryz.prog.info? 5).map (·.size) = some 1 := by rw [hi]; simp [hz1]
  have hcell1 : Tryz.prog.cellsOf 5 = 1 := by simp [Program.cellsOf, hi, hz1]
  have hll : s.data.toList.length = s.size := toList_length s
  obtain ⟨M, hM, hMs⟩ : ∃ M : Array Value, (∀ W : World, (Instr.makeSlice 145 (.int .i64 (s.size : Int)) (.int .i64 (s.size : Int))).run Tryz.prog W = .ok (.slice (some ⟨W.heap.size, 0, none⟩) s.size s.size) (W.alloc (.cells M 5))) ∧ M.size = s.size := by
    refine ⟨madeCells (Value.int .u8 0).cells (((s.size : Nat) : Int).toNat * i0.size), fun W => ?_, by rw [size_madeCells, hz1]; simp⟩
    have := run_make (P := Tryz.prog) W 145 5 i0 (.int .u8 0) Tryz.underlying145 hi hz0 .i64 .i64 (s.size : Int) (s.size : Int) (by omega) (by omega) (by rw [hz2]; omega) (by omega)
    simpa using this
  have hcopy := Lib.run_copy_row_string (P := Tryz.prog) (w.alloc (.cells M 5)) 145 9 3 5 w.heap.size 0 s.size s.size s M 5 Tryz.underlying145 hone (heap_alloc_new w _) (Nat.le_refl _) (by omega)
  obtain ⟨Y, hY, hYl⟩ : ∃ Y : Array Value, Y = (M.toList.take 0 ++ Lib.byteCells s.data.toList ++ M.toList.drop (0 + s.size)).toArray ∧ Y.toList = Lib.byteCells s.data.toList :=
    ⟨_, rfl, by rw [List.toList_toArray, List.take_zero, List.nil_append, List.drop_of_length_le (by rw [Array.length_toList]; omega), List.append_nil]⟩
  rw [← hY] at hcopy
  have hYs : Y.size = s.size := by rw [← Array.length_toList, hYl, Lib.byteCells_length, hll]
  have hrow : ((w.alloc (.cells M 5)).setRow w.heap.size Y).heap[w.heap.size]? = some (.cells Y 5 (0, 0)) := setRow_heap _ _ M _ 5 (0, 0) (heap_alloc_new w _)
  have hun := Lib.run_unsafeString_row (P := Tryz.prog) ((w.alloc (.cells M 5)).setRow w.heap.size Y) 281 3 9 5 Tryz.underlying281 hcell1 w.heap.size Y.size (by unfold World.shape?; rw [hrow]) s.data.toList (fun e => by rw [e] at hll; simp at hll; omega) (by omega) (by omega)
    (fun j x hx => Lib.cells_of_row hrow Y.size j _ (by rw [List.take_of_length_le (by rw [Array.length_toList]; exact Nat.le_refl _), hYl]; simp [Lib.byteCells, hx]))
  rw [hll, list_of_bytes] at hun
  have b1 : Below w.heap.size w (w.alloc (.cells M 5)) := (Below.refl _ w).alloc (Nat.le_refl _) _
  have b2 : Below w.heap.size (w.alloc (.cells M 5)) ((w.alloc (.cells M 5)).setRow w.heap.size Y) := ⟨rfl, rfl, rfl, by simp, fun k hk => setRow_other _ _ _ _ (by omega)⟩
  have HB : Hid _ := Lib.below_freeze (b1.trans b2) (p := ⟨w.heap.size, 0, none⟩) (Nat.le_refl _) s.size
  clear hY b1 b2
  go_enter Tryz.func192, Tryz.ntmps192
  go_wp2
  go_ret
  exact ⟨rfl, HB.out⟩
theorem clone_any (s : ByteArray) (w : World) (hs : s.size ≤ 1048576) :
    Calls Tryz.prog 192 #[.string s] w fun e w' => e = .returned (.string s) ∧ Below w.heap.size w w' := by
  by_cases h : 0 < s.size
  · exact clone_some s w h hs
  · obtain rfl := empty_of s (by omega)
    exact clone_none w
theorem strClone_any (s : ByteArray) (w : World) (hs : s.size ≤ 1048576) :
    Calls Tryz.prog 160 #[.string s] w fun e w' => e = .returned (.string s) ∧ Below w.heap.size w w' := by
  go_enter Tryz.func160, Tryz.ntmps160
  go_wp2_with (go_at_call 192; refine (clone_any s _ hs).mono ?_; rintro e w1 ⟨rfl, hb⟩)
  go_ret
  exact ⟨rfl, hb⟩
set_option maxRecDepth 4000 in
set_option maxHeartbeats 1000000 in
theorem ownValue_any (k n : Int) (t : ByteArray) (w : World) (hs : t.size ≤ 1048576) :
    Calls Tryz.prog 125 #[.agg #[.int .i64 k, .int .i64 n, .string t]] w fun e w' => e = .returned (.agg #[.int .i64 k, .int .i64 n, .string t]) ∧ Below w.heap.size w w' := by
  have X0 := Res3.start w (.int .i64 k) (.int .i64 n) (.string t) 68
  have Y0 := Res3.start (w.alloc (.cells #[.int .i64 k, .int .i64 n, .string t] 68)) (.int .i64 0) (.int .i64 0) (.string em) 68
  have X1 := X0.step Y0.bel
  go_enter Tryz.func125, Tryz.ntmps125
  go_wp2_with fail
  refine (strClone_any t _ hs).mono ?_
  rintro e w1 ⟨rfl, hb⟩
  have Y := Y0.step hb
  have X := X1.step hb
  have a0 := X.c0
  have a1 := X.c1
  have a2 := X.c2
  have f0 := X.z0
  have f1 := X.z1
  have f2 := X.z2
  have g0 := Y.c0
  have g1 := Y.c1
  have g2 := Y.c2
  have z0 := Y.z0
  have z1 := Y.z1
  have z2 := Y.z2
  have hlt := Y.lt
  have hbw : Below w.heap.size w w1 := ((Below.refl _ _).alloc (Nat.le_refl _) _).trans (Y.bel.mono (by simp))
  simp only [heap_size_alloc] at g0 g1 g2 z0 z1 z2 hlt
  clear hb Y Y0 X X0 X1
  go_wp2_with fail
  refine bodyPost_ret (v := .agg #[.int .i64 k, .int .i64 n, .string t]) (by simp [results, Tryz.results125, go_sem, *]) rfl ⟨rfl, ?_⟩
  (repeat (first | (with_reducible exact Below.refl _ _) | (with_reducible assumption) | (with_reducible apply below_drewN) | (with_reducible apply Below.drew) | ((with_reducible refine Below.setCell ?_ ?_ _); rotate_left; focus (first | (simp; done) | (simp; omega) | omega)) | ((with_reducible refine Below.alloc ?_ ?_ _); rotate_left; focus (first | (simp; done) | (simp; omega) | omega))))

end Go.Proofs.YtpfbepbmiillbaaGreatDoor

/- What the laws' marks on rows of values answer: a row that is marked holds its marks. -/
namespace Go.Proofs.YtpfbepbmiillbaaGreatDoor
open Go.RowKit
set_option linter.unusedVariables false

/-- The digits of a number ahead of a text. -/
def digs (k : Nat) (out : ByteArray) : ByteArray := if h : k = 0 then out else digs (k / 10) (txt [48 + (k : Int) % 10] ++ out)
  termination_by k
  decreasing_by omega
theorem digs_zero (out : ByteArray) : digs 0 out = out := by rw [digs]; simp
theorem digs_pos (k : Nat) (out : ByteArray) (h : 0 < k) : digs k out = digs (k / 10) (txt [48 + (k : Int) % 10] ++ out) := by
  rw [digs, dif_neg (by omega)]
/-- The text of a mark. -/
def mt (k : Nat) : ByteArray := (⟨#[109]⟩ : ByteArray) ++ digs k em
theorem conv1 (W : World) (z : Int) : (convert 145 9 (.slice (some ⟨W.heap.size, 0, none⟩) 1 1)).run Tryz.prog (W.alloc (.cells #[.int .u8 z] 5)) = .ok (.string (txt [z])) (W.alloc (.cells #[.int .u8 z] 5)) :=
  run_convert_bytes_arg _ 145 5 Tryz.underlying145 Tryz.underlying5 W.heap.size 0 1 1 [z] rfl (fun i hi => by
    have : i = 0 := by omega
    subst this
    simp [go_sem]) 9 Tryz.underlying9
set_option maxRecDepth 4000 in
set_option maxHeartbeats 1000000 in
theorem markText_any (k : Nat) (h1 : 1 ≤ k) (h2 : k ≤ 1000000) (w : World) :
    Calls Tryz.prog 55 #[.int .i64 k] w fun e w' => e = .returned (.string (mt k)) ∧ Below w.heap.size w w' := by
  have hp : ¬ ((k : Int) ≤ 0) := by omega
  go_enter Tryz.func55, Tryz.ntmps55
  go_wp2_with fail
  go_loopw [0, 3] (fun i u wr => ∃ (j : Nat) (out : ByteArray), i = .int .i64 j ∧ u = .string out ∧ digs j out = digs k em ∧ out.size + j ≤ k ∧ Below w.heap.size w wr) (fun i _ _ => (intOf i).toNat)
  case atStart => exact ⟨k, em, rfl, rfl, rfl, by simp [ByteArray.size], Below.refl _ _⟩
  case round =>
    obtain ⟨j, out, rfl, rfl, hd, hsz, hbel⟩ := hrel
    have HD : Hid _ := hd
    clear hd
    have hz := hbel.size
    by_cases hj : 0 < j
    · have hj' : (0 : Int) < (j : Int) := by omega
      have ht : (txt [48 + (j : Int) % 10]).size = 1 := txt_size _
      have hc := conv1 wr (48 + (j : Int) % 10)
      have hm : Int.tmod (j : Int) 10 = (j : Int) % 10 := Int.tmod_eq_emod_of_nonneg (by omega)
      have hq : Int.tdiv (j : Int) 10 = (j : Int) / 10 := Int.tdiv_eq_ediv_of_nonneg (by omega)
      go_wp2_with fail
      go_roundw
      case rel => exact ⟨j / 10, txt [48 + (j : Int) % 10] ++ out, by go_num, rfl, by rw [← digs_pos j out hj]; exact HD.out, by rw [ByteArray.size_append, ht]; omega, by (repeat (first | (with_reducible exact Below.refl _ _) | (with_reducible assumption) | (with_reducible apply below_drewN) | (with_reducible apply Below.drew) | ((with_reducible refine Below.setCell ?_ ?_ _); rotate_left; focus (first | (simp; done) | (simp; omega) | omega)) | ((with_reducible refine Below.alloc ?_ ?_ _); rotate_left; focus (first | (simp; done) | (simp; omega) | omega))))⟩
      case measure => simp [intOf]; omega
    · have hj0 : j = 0 := by omega
      subst hj0
      have e : out = digs k em := by rw [← HD.out, digs_zero]
      subst e
      clear HD
      go_wp2_with fail
      go_ret
      exact ⟨rfl, hbel⟩

/-- The value that marks place number i. -/
def markV (i : Nat) : Val := ⟨1 + 3 * (i : Int), 1 + 3 * (i : Int) + 1, mt (1 + 3 * (i : Int) + 1 + 1).toNat⟩
theorem markText_int (z : Int) (h1 : 1 ≤ z) (h2 : z ≤ 1000000) (w : World) :
    Calls Tryz.prog 55 #[.int .i64 z] w fun e w' => e = .returned (.string (mt z.toNat)) ∧ Below w.heap.size w w' := by
  have := markText_any z.toNat (by omega) (by omega) w
  rw [show ((z.toNat : Nat) : Int) = z by omega] at this
  exact this
def marks (n : Nat) : List Val := (List.range n).map markV
theorem marks_len (n : Nat) : (marks n).length = n := by unfold marks; simp
theorem marks_get (n i : Nat) (h : i < (marks n).length) : (marks n)[i] = markV i := by simp [marks]
/-- The first k places marked. -/
def markMix (l : List Val) (k : Nat) : List Val := marks k ++ l.drop k
theorem markMix_len (l : List Val) (k : Nat) (h : k ≤ l.length) : (markMix l k).length = l.length := by unfold markMix; rw [List.length_append, marks_len, List.length_drop]; omega
theorem markMix_zero (l : List Val) : markMix l 0 = l := by unfold markMix marks; simp
theorem markMix_full (l : List Val) : markMix l l.length = marks l.length := by unfold markMix; simp
theorem markMix_set (l : List Val) (k : Nat) (h : k < l.length) : (markMix l k).set k (markV k) = markMix l (k + 1) := by
  unfold markMix
  rw [List.set_append_right _ _ (by rw [marks_len]; omega), marks_len, Nat.sub_self]
  have e : marks (k + 1) = marks k ++ [markV k] := by unfold marks; rw [List.range_succ, List.map_append]; rfl
  rw [e, List.append_assoc]
  congr 1
  rw [List.drop_eq_getElem_cons h]; rfl

set_option maxRecDepth 4000 in
set_option maxHeartbeats 1000000 in
theorem markValueS_nil (a : Option Addr) (c : Nat) (w : World) : Calls Tryz.prog 24 #[.slice a 0 c, .int .i64 1] w fun e w' => e = .returned (.int .i64 1) ∧ Below w.heap.size w w' := by
  go_enter Tryz.func24, Tryz.ntmps24
  go_wp2_with fail
  refine wp_loop_rounds 1 ?_
  rw [rounds_succ]
  go_wp2_with fail
  go_ret
  exact ⟨rfl, Below.refl _ _⟩
set_option maxRecDepth 4000 in
set_option maxHeartbeats 1000000 in
theorem heldValueS_nil (a : Option Addr) (c : Nat) (w : World) : Calls Tryz.prog 25 #[.slice a 0 c, .int .i64 1] w fun e w' => e = .returned (.int .i64 1) ∧ Below w.heap.size w w' := by
  go_enter Tryz.func25, Tryz.ntmps25
  go_wp2_with fail
  refine wp_loop_rounds 1 ?_
  rw [rounds_succ]
  go_wp2_with fail
  go_ret
  exact ⟨rfl, Below.refl _ _⟩
set_option maxRecDepth 4000 in
set_option maxHeartbeats 1000000 in
theorem eqValueS_nil (a b : Option Addr) (c d : Nat) (w : World) : Calls Tryz.prog 23 #[.slice a 0 c, .slice b 0 d] w fun e w' => e = .returned (.bool true) ∧ Below w.heap.size w w' := by
  go_enter Tryz.func23, Tryz.ntmps23
  go_wp2_with fail
  refine wp_loop_rounds 1 ?_
  rw [rounds_succ]
  go_wp2_with fail
  go_ret
  exact ⟨rfl, Below.refl _ _⟩

set_option maxRecDepth 4000 in
set_option maxHeartbeats 2000000 in
theorem markValueS_any (base g c : Nat) (l : List Val) (w : World) (hown : w.ownsRow base 68 3 (.slice (some ⟨g, 0, none⟩) l.length c) l.length (flat l)) (hl : l.length ≤ 1000) (hbase : base ≤ w.heap.size) :
    Calls Tryz.prog 24 #[.slice (some ⟨g, 0, none⟩) l.length c, .int .i64 1] w fun e w' => e = .returned (.int .i64 (1 + 3 * l.length)) ∧ w'.ownsRow base 68 3 (.slice (some ⟨g, 0, none⟩) l.length c) l.length (flat (marks l.length)) ∧ Below base w w' := by
  have hgb : base ≤ g := (hown.lt g rfl).1
  have HO0 : Hid _ := hown
  clear hown
  go_enter Tryz.func24, Tryz.ntmps24
  go_wp2_with fail
  go_loopw [1, 5] (fun q i wr => ∃ k : Nat, k ≤ l.length ∧ i = .int .i64 k ∧ q = .int .i64 (1 + 3 * (k : Int)) ∧ wr.ownsRow base 68 3 (.slice (some ⟨g, 0, none⟩) l.length c) l.length (flat (markMix l k)) ∧ Below base w wr) (fun _ i _ => l.length - (intOf i).toNat)
  case atStart => exact ⟨0, Nat.zero_le _, rfl, rfl, by rw [markMix_zero]; exact HO0.out, Below.refl _ _⟩
  case round =>
    obtain ⟨k, hk, rfl, rfl, hown, hbel⟩ := hrel
    have HB : Hid _ := hbel
    have hz := hbel.size
    by_cases hlt : k < l.length
    · have hm := markMix_len l k hk
      have hg := flat_get (markMix l k) k (by omega)
      have hgl : g < wr.heap.size := (hown.lt g rfl).2
      obtain ⟨z0, y0⟩ : ∃ u, wr.cell? ⟨g, k * 3, none⟩ = some u := ⟨_, owns_cell hown _ _ hg.1⟩
      obtain ⟨z1, y1⟩ : ∃ u, wr.cell? ⟨g, k * 3 + 1, none⟩ = some u := ⟨_, owns_cell hown _ _ hg.2.1⟩
      obtain ⟨z2, y2⟩ : ∃ u, wr.cell? ⟨g, k * 3 + 2, none⟩ = some u := ⟨_, owns_cell hown _ _ hg.2.2⟩
      have f0 := World.ownsRow.frozenAt hown (k * 3)
      have f1 := World.ownsRow.frozenAt hown (k * 3 + 1)
      have f2 := World.ownsRow.frozenAt hown (k * 3 + 2)
      have hst := (World.ownsRow.stored ((World.ownsRow.stored hown (k * 3) (.int .i64 (1 + 3 * (k : Int)))).1) (k * 3 + 1) (.int .i64 (1 + 3 * (k : Int) + 1))).1
      have he : (((flat (markMix l k)).set (k * 3) (.int .i64 (1 + 3 * (k : Int)))).set (k * 3 + 1) (.int .i64 (1 + 3 * (k : Int) + 1))).set (k * 3 + 2) (.string (mt (1 + 3 * (k : Int) + 1 + 1).toNat)) = flat (markMix l (k + 1)) := by
        rw [← markMix_set l k hlt]; exact flat_set (markMix l k) k (markV k) (by omega)
      have HS : Hid _ := hst
      have HE : Hid _ := he
      clear hst hown hbel hg hm HO0 he
      go_wp2_with fail
      refine (markText_int _ (by omega) (by omega) _).mono ?_
      rintro e w2 ⟨rfl, hb2⟩
      have hown2 := owns_below HS.out hb2
      obtain ⟨x2, v2⟩ : ∃ u, w2.cell? ⟨g, k * 3 + 2, none⟩ = some u := by
        have := World.ownsRow.cellAt hown2 (k * 3 + 2) (by omega)
        rw [this]
        exact ⟨_, List.getElem?_eq_getElem (by have := hown2.1; omega)⟩
      have q2 := World.ownsRow.frozenAt hown2 (k * 3 + 2)
      have hst2 := (World.ownsRow.stored hown2 (k * 3 + 2) (.string (mt (1 + 3 * (k : Int) + 1 + 1).toNat))).1
      rw [HE.out] at hst2
      have HS2 : Hid _ := hst2
      have hb3 : Below base w w2 := ((HB.out.setCell hgb _).setCell hgb _).trans (hb2.mono (by simp; omega))
      have HB3 : Hid _ := hb3
      have hz2 := hb3.size
      clear hown2 hst2 hb3 hb2 HS HE
      go_wp2_with fail
      go_roundw
      case rel => exact ⟨k + 1, by omega, by go_num, by go_num, HS2.out, HB3.out.setCell hgb _⟩
      case measure => simp [intOf]; omega
    · have hke : k = l.length := by omega
      subst hke
      rw [markMix_full] at hown
      clear HO0
      go_wp2_with fail
      go_ret
      exact ⟨rfl, hown, HB.out⟩

set_option maxRecDepth 4000 in
set_option maxHeartbeats 2000000 in
theorem heldValueS_any (g c n : Nat) (w : World) (hr : ReadV w g (marks n)) (hl : n ≤ 1000) :
    Calls Tryz.prog 25 #[.slice (some ⟨g, 0, none⟩) n c, .int .i64 1] w fun e w' => e = .returned (.int .i64 (1 + 3 * n)) ∧ Below w.heap.size w w' := by
  have HR : Hid _ := hr
  clear hr
  go_enter Tryz.func25, Tryz.ntmps25
  go_wp2_with fail
  go_loopw [1, 5] (fun q i wr => ∃ k : Nat, k ≤ n ∧ i = .int .i64 k ∧ q = .int .i64 (1 + 3 * (k : Int)) ∧ Below w.heap.size w wr) (fun _ i _ => n - (intOf i).toNat)
  case atStart => exact ⟨0, Nat.zero_le _, rfl, rfl, Below.refl _ _⟩
  case round =>
    obtain ⟨k, hk, rfl, rfl, hbel⟩ := hrel
    have hz := hbel.size
    by_cases hlt : k < n
    · have R := HR.out.next hbel
      have x := R.cells k (by rw [marks_len]; exact hlt)
      simp only [marks_get] at x
      simp only [markV] at x
      obtain ⟨x0, x1, x2⟩ := x
      have l1 := R.lt
      have hk1 : (k : Int) < (n : Int) := by omega
      have q0 : ∀ u : Under wr, u.x.cell? ⟨g, k * 3, none⟩ = some (.int .i64 (1 + 3 * (k : Int))) := fun u => (u.h.cell l1).trans x0
      have q1 : ∀ u : Under wr, u.x.cell? ⟨g, k * 3 + 1, none⟩ = some (.int .i64 (1 + 3 * (k : Int) + 1)) := fun u => (u.h.cell l1).trans x1
      have HM0 := markText_int (1 + 3 * (k : Int) + 1 + 1) (by omega) (by omega)
      obtain ⟨T, hT⟩ : ∃ T, T = mt (1 + 3 * (k : Int) + 1 + 1).toNat := ⟨_, rfl⟩
      rw [← hT] at x2 HM0
      have HM : Hid _ := HM0
      have q2 : ∀ u : Under wr, u.x.cell? ⟨g, k * 3 + 2, none⟩ = some (.string T) := fun u => (u.h.cell l1).trans x2
      clear HM0 hT
      have hnu : Nonempty (Under wr) := ⟨⟨wr, Below.refl _ _⟩⟩
      clear R
      go_wp2_with fail
      refine wp_region_under (by kernel_rfl) (by kernel_rfl) ?_
      repeat (go_big_quiet_step ((go_at_call 55; exact calls_under _ (HM.out _))))
      refine wpQuiet_nil ?_
      rintro _ ⟨u, rfl⟩
      go_wp2_with fail
      go_roundw
      case rel => exact ⟨k + 1, by omega, by go_num, by go_num, hbel.trans (u.h.mono hbel.size)⟩
      case measure => simp [intOf]; omega
    · have hke : k = n := by omega
      subst hke
      go_wp2_with fail
      go_ret
      exact ⟨rfl, hbel⟩

end Go.Proofs.YtpfbepbmiillbaaGreatDoor

/- What the laws' own helpers on rows of fields answer. -/
namespace Go.Proofs.YtpfbepbmiillbaaGreatDoor
open Go.RowKit
set_option linter.unusedVariables false

/-- A row of fields that stands at a block's head. -/
structure ReadF (w : World) (g : Nat) (l : List Fld) : Prop where
  lt : g < w.heap.size
  cells : ∀ i (h : i < l.length), w.cell? ⟨g, i * 4, none⟩ = some (.string l[i].name) ∧ w.cell? ⟨g, i * 4 + 1, none⟩ = some (.int .i64 l[i].v.k) ∧ w.cell? ⟨g, i * 4 + 2, none⟩ = some (.int .i64 l[i].v.n) ∧ w.cell? ⟨g, i * 4 + 3, none⟩ = some (.string l[i].v.t)
theorem ReadF.step {w w' : World} {g base : Nat} {l : List Fld} (h : ReadF w g l) (hb : Below base w w') (hg : g < base) : ReadF w' g l :=
  ⟨Nat.lt_of_lt_of_le h.lt hb.size, fun i hi => ⟨(hb.cell hg).trans (h.cells i hi).1, (hb.cell hg).trans (h.cells i hi).2.1, (hb.cell hg).trans (h.cells i hi).2.2.1, (hb.cell hg).trans (h.cells i hi).2.2.2⟩⟩
theorem ReadF.next {w w' : World} {g : Nat} {l : List Fld} (h : ReadF w g l) (hb : Below w.heap.size w w') : ReadF w' g l := h.step hb h.lt
theorem ReadF.of_own {w : World} {base g cap : Nat} {l : List Fld} (h : w.ownsRow base 268 4 (.slice (some ⟨g, 0, none⟩) l.length cap) l.length (flatF l)) : ReadF w g l :=
  ⟨(h.lt g rfl).2, fun i hi => ⟨owns_cell h _ _ (flatF_get l i hi).1, owns_cell h _ _ (flatF_get l i hi).2.1, owns_cell h _ _ (flatF_get l i hi).2.2.1, owns_cell h _ _ (flatF_get l i hi).2.2.2⟩⟩
theorem own_there {w : World} {base g c n : Nat} {e : TypeId} {size : Nat} {xs : List Value} (h : w.ownsRow base e size (.slice (some ⟨g, 0, none⟩) n c) n xs) (j : Nat) (hj : j < n * size) : ∃ u, w.cell? ⟨g, j, none⟩ = some u := by
  have := World.ownsRow.cellAt h j hj
  rw [this]
  exact ⟨_, List.getElem?_eq_getElem (by have := h.1; omega)⟩

end Go.Proofs.YtpfbepbmiillbaaGreatDoor

/- What the specification's order of values answers, for every two right values. -/
namespace Go.Proofs.YtpfbepbmiillbaaGreatDoor
open Go.RowKit
set_option linter.unusedVariables false

theorem val_ext {a b : Val} (h1 : a.k = b.k) (h2 : a.n = b.n) (h3 : a.t = b.t) : a = b := by cases a; cases b; simp_all
end Go.Proofs.YtpfbepbmiillbaaGreatDoor

/- What a term lets in, said plainly. Nothing of the program is used here. -/
namespace Go.Proofs.YtpfbepbmiillbaaGreatDoor
open Go.RowKit
set_option linter.unusedVariables false

instance : DecidableEq Val := fun a b =>
  if h : a.k = b.k ∧ a.n = b.n ∧ a.t = b.t then isTrue (val_ext h.1 h.2.1 h.2.2) else isFalse (fun e => h (by subst e; exact ⟨rfl, rfl, rfl⟩))
/-- Is a value a right document. -/
def docB (v : Val) : Bool := decide (v.k = 5) && okB v
end Go.Proofs.YtpfbepbmiillbaaGreatDoor

/- What the specification's order of values answers, for every two right values. -/
namespace Go.Proofs.YtpfbepbmiillbaaGreatDoor
open Go.RowKit
set_option linter.unusedVariables false

end Go.Proofs.YtpfbepbmiillbaaGreatDoor
