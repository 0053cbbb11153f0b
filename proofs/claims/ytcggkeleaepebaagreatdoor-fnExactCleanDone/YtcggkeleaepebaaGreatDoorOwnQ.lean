/- A copy of a text is the same text, in new memory; so is a value with it. -/
import Derived.Test.YtcggkeleaepebaaGreatDoorRowV
import Derived.Test.YtcggkeleaepebaaGreatDoorEncQ
import Derived.Lib.Walk
import Derived.Lib.BufferWrite
import Derived.Lib.UnsafeStr
import Derived.Laws.MakeOwn
import Derived.Test.YtcggkeleaepebaaGreatDoorOrdM
import Derived.Test.YtcggkeleaepebaaGreatDoorGetM
import Derived.Test.YtcggkeleaepebaaGreatDoorSplitM
namespace Go.Proofs.YtcggkeleaepebaaGreatDoor
open Go.RowKit
set_option linter.unusedVariables false

set_option maxRecDepth 4000 in
set_option maxHeartbeats 1000000 in
theorem clone_none (w : World) : Calls Tryz.prog 107 #[.string em] w fun e w' => e = .returned (.string em) ∧ Below w.heap.size w w' := by
  go_enter Tryz.func107, Tryz.ntmps107
  go_wp2
  go_ret
  exact ⟨rfl, Below.refl _ _⟩
theorem list_of_bytes (s : ByteArray) : (⟨s.data.toList.toArray⟩ : ByteArray) = s := by cases s; simp
set_option maxRecDepth 4000 in
set_option maxHeartbeats 2000000 in
theorem clone_some (s : ByteArray) (w : World) (h0 : 0 < s.size) (hs : s.size ≤ 1048576) :
    Calls Tryz.prog 107 #[.string s] w fun e w' => e = .returned (.string s) ∧ Below w.heap.size w w' := by
  obtain ⟨i0, hi, hz0, hz1, hz2⟩ := info_parts infoB
  have hone : (Tryz.prog.info? 5).map (·.size) = some 1 := by rw [hi]; simp [hz1]
  have hcell1 : Tryz.prog.cellsOf 5 = 1 := by simp [Program.cellsOf, hi, hz1]
  have hll : s.data.toList.length = s.size := toList_length s
  obtain ⟨M, hM, hMs⟩ : ∃ M : Array Value, (∀ W : World, (Instr.makeSlice 127 (.int .i64 (s.size : Int)) (.int .i64 (s.size : Int))).run Tryz.prog W = .ok (.slice (some ⟨W.heap.size, 0, none⟩) s.size s.size) (W.alloc (.cells M 5))) ∧ M.size = s.size := by
    refine ⟨madeCells (Value.int .u8 0).cells (((s.size : Nat) : Int).toNat * i0.size), fun W => ?_, by rw [size_madeCells, hz1]; simp⟩
    have := run_make (P := Tryz.prog) W 127 5 i0 (.int .u8 0) Tryz.underlying127 hi hz0 .i64 .i64 (s.size : Int) (s.size : Int) (by omega) (by omega) (by rw [hz2]; omega) (by omega)
    simpa using this
  have hcopy := Lib.run_copy_row_string (P := Tryz.prog) (w.alloc (.cells M 5)) 127 9 3 5 w.heap.size 0 s.size s.size s M 5 Tryz.underlying127 hone (heap_alloc_new w _) (Nat.le_refl _) (by omega)
  obtain ⟨Y, hY, hYl⟩ : ∃ Y : Array Value, Y = (M.toList.take 0 ++ Lib.byteCells s.data.toList ++ M.toList.drop (0 + s.size)).toArray ∧ Y.toList = Lib.byteCells s.data.toList :=
    ⟨_, rfl, by rw [List.toList_toArray, List.take_zero, List.nil_append, List.drop_of_length_le (by rw [Array.length_toList]; omega), List.append_nil]⟩
  rw [← hY] at hcopy
  have hYs : Y.size = s.size := by rw [← Array.length_toList, hYl, Lib.byteCells_length, hll]
  have hrow : ((w.alloc (.cells M 5)).setRow w.heap.size Y).heap[w.heap.size]? = some (.cells Y 5 (0, 0)) := setRow_heap _ _ M _ 5 (0, 0) (heap_alloc_new w _)
  have hun := Lib.run_unsafeString_row (P := Tryz.prog) ((w.alloc (.cells M 5)).setRow w.heap.size Y) 155 3 9 5 Tryz.underlying155 hcell1 w.heap.size Y.size (by unfold World.shape?; rw [hrow]) s.data.toList (fun e => by rw [e] at hll; simp at hll; omega) (by omega) (by omega)
    (fun j x hx => Lib.cells_of_row hrow Y.size j _ (by rw [List.take_of_length_le (by rw [Array.length_toList]; exact Nat.le_refl _), hYl]; simp [Lib.byteCells, hx]))
  rw [hll, list_of_bytes] at hun
  have b1 : Below w.heap.size w (w.alloc (.cells M 5)) := (Below.refl _ w).alloc (Nat.le_refl _) _
  have b2 : Below w.heap.size (w.alloc (.cells M 5)) ((w.alloc (.cells M 5)).setRow w.heap.size Y) := ⟨rfl, rfl, rfl, by simp, fun k hk => setRow_other _ _ _ _ (by omega)⟩
  have HB : Hid _ := Lib.below_freeze (b1.trans b2) (p := ⟨w.heap.size, 0, none⟩) (Nat.le_refl _) s.size
  clear hY b1 b2
  go_enter Tryz.func107, Tryz.ntmps107
  go_wp2
  go_ret
  exact ⟨rfl, HB.out⟩
theorem clone_any (s : ByteArray) (w : World) (hs : s.size ≤ 1048576) :
    Calls Tryz.prog 107 #[.string s] w fun e w' => e = .returned (.string s) ∧ Below w.heap.size w w' := by
  by_cases h : 0 < s.size
  · exact clone_some s w h hs
  · obtain rfl := empty_of s (by omega)
    exact clone_none w
theorem strClone_any (s : ByteArray) (w : World) (hs : s.size ≤ 1048576) :
    Calls Tryz.prog 84 #[.string s] w fun e w' => e = .returned (.string s) ∧ Below w.heap.size w w' := by
  go_enter Tryz.func84, Tryz.ntmps84
  go_wp2_with (go_at_call 107; refine (clone_any s _ hs).mono ?_; rintro e w1 ⟨rfl, hb⟩)
  go_ret
  exact ⟨rfl, hb⟩
set_option maxRecDepth 4000 in
set_option maxHeartbeats 1000000 in
theorem ownValue_any (k n : Int) (t : ByteArray) (w : World) (hs : t.size ≤ 1048576) :
    Calls Tryz.prog 87 #[.agg #[.int .i64 k, .int .i64 n, .string t]] w fun e w' => e = .returned (.agg #[.int .i64 k, .int .i64 n, .string t]) ∧ Below w.heap.size w w' := by
  have X0 := Res3.start w (.int .i64 k) (.int .i64 n) (.string t) 82
  have Y0 := Res3.start (w.alloc (.cells #[.int .i64 k, .int .i64 n, .string t] 82)) (.int .i64 0) (.int .i64 0) (.string em) 82
  have X1 := X0.step Y0.bel
  go_enter Tryz.func87, Tryz.ntmps87
  go_wp2_with fail
  refine (strClone_any t _ hs).mono ?_
  rintro e w1 ⟨rfl, hb⟩
  have Y := Y0.step hb
  have X := X1.step hb
  have a0 := X.c0
  have a1 := X.c1
  have a2 := X.c2
  have f0 := X.z0
  have f1 := X.z1
  have f2 := X.z2
  have g0 := Y.c0
  have g1 := Y.c1
  have g2 := Y.c2
  have z0 := Y.z0
  have z1 := Y.z1
  have z2 := Y.z2
  have hlt := Y.lt
  have hbw : Below w.heap.size w w1 := ((Below.refl _ _).alloc (Nat.le_refl _) _).trans (Y.bel.mono (by simp))
  simp only [heap_size_alloc] at g0 g1 g2 z0 z1 z2 hlt
  clear hb Y Y0 X X0 X1
  go_wp2_with fail
  refine bodyPost_ret (v := .agg #[.int .i64 k, .int .i64 n, .string t]) (by simp [results, Tryz.results87, go_sem, *]) rfl ⟨rfl, ?_⟩
  (repeat (first | (with_reducible exact Below.refl _ _) | (with_reducible assumption) | (with_reducible apply below_drewN) | (with_reducible apply Below.drew) | ((with_reducible refine Below.setCell ?_ ?_ _); rotate_left; focus (first | (simp; done) | (simp; omega) | omega)) | ((with_reducible refine Below.alloc ?_ ?_ _); rotate_left; focus (first | (simp; done) | (simp; omega) | omega))))

end Go.Proofs.YtcggkeleaepebaaGreatDoor

/- What the laws' marks on rows of values answer: a row that is marked holds its marks. -/
namespace Go.Proofs.YtcggkeleaepebaaGreatDoor
open Go.RowKit
set_option linter.unusedVariables false

/-- The digits of a number ahead of a text. -/
def digs (k : Nat) (out : ByteArray) : ByteArray := if h : k = 0 then out else digs (k / 10) (txt [48 + (k : Int) % 10] ++ out)
  termination_by k
  decreasing_by omega
theorem digs_zero (out : ByteArray) : digs 0 out = out := by rw [digs]; simp
theorem digs_pos (k : Nat) (out : ByteArray) (h : 0 < k) : digs k out = digs (k / 10) (txt [48 + (k : Int) % 10] ++ out) := by
  rw [digs, dif_neg (by omega)]
/-- The text of a mark. -/
def mt (k : Nat) : ByteArray := (⟨#[109]⟩ : ByteArray) ++ digs k em
theorem conv1 (W : World) (z : Int) : (convert 127 9 (.slice (some ⟨W.heap.size, 0, none⟩) 1 1)).run Tryz.prog (W.alloc (.cells #[.int .u8 z] 5)) = .ok (.string (txt [z])) (W.alloc (.cells #[.int .u8 z] 5)) :=
  run_convert_bytes_arg _ 127 5 Tryz.underlying127 Tryz.underlying5 W.heap.size 0 1 1 [z] rfl (fun i hi => by
    have : i = 0 := by omega
    subst this
    simp [go_sem]) 9 Tryz.underlying9
set_option maxRecDepth 4000 in
set_option maxHeartbeats 1000000 in
theorem markText_any (k : Nat) (h1 : 1 ≤ k) (h2 : k ≤ 1000000) (w : World) :
    Calls Tryz.prog 63 #[.int .i64 k] w fun e w' => e = .returned (.string (mt k)) ∧ Below w.heap.size w w' := by
  have hp : ¬ ((k : Int) ≤ 0) := by omega
  go_enter Tryz.func63, Tryz.ntmps63
  go_wp2_with fail
  go_loopw [0, 3] (fun i u wr => ∃ (j : Nat) (out : ByteArray), i = .int .i64 j ∧ u = .string out ∧ digs j out = digs k em ∧ out.size + j ≤ k ∧ Below w.heap.size w wr) (fun i _ _ => (intOf i).toNat)
  case atStart => exact ⟨k, em, rfl, rfl, rfl, by simp [ByteArray.size], Below.refl _ _⟩
  case round =>
    obtain ⟨j, out, rfl, rfl, hd, hsz, hbel⟩ := hrel
    have HD : Hid _ := hd
    clear hd
    have hz := hbel.size
    by_cases hj : 0 < j
    · have hj' : (0 : Int) < (j : Int) := by omega
      have ht : (txt [48 + (j : Int) % 10]).size = 1 := txt_size _
      have hc := conv1 wr (48 + (j : Int) % 10)
      have hm : Int.tmod (j : Int) 10 = (j : Int) % 10 := Int.tmod_eq_emod_of_nonneg (by omega)
      have hq : Int.tdiv (j : Int) 10 = (j : Int) / 10 := Int.tdiv_eq_ediv_of_nonneg (by omega)
      go_wp2_with fail
      go_roundw
      case rel => exact ⟨j / 10, txt [48 + (j : Int) % 10] ++ out, by go_num, rfl, by rw [← digs_pos j out hj]; exact HD.out, by rw [ByteArray.size_append, ht]; omega, by (repeat (first | (with_reducible exact Below.refl _ _) | (with_reducible assumption) | (with_reducible apply below_drewN) | (with_reducible apply Below.drew) | ((with_reducible refine Below.setCell ?_ ?_ _); rotate_left; focus (first | (simp; done) | (simp; omega) | omega)) | ((with_reducible refine Below.alloc ?_ ?_ _); rotate_left; focus (first | (simp; done) | (simp; omega) | omega))))⟩
      case measure => simp [intOf]; omega
    · have hj0 : j = 0 := by omega
      subst hj0
      have e : out = digs k em := by rw [← HD.out, digs_zero]
      subst e
      clear HD
      go_wp2_with fail
      go_ret
      exact ⟨rfl, hbel⟩

/-- The value that marks place number i. -/
def markV (i : Nat) : Val := ⟨1 + 3 * (i : Int), 1 + 3 * (i : Int) + 1, mt (1 + 3 * (i : Int) + 1 + 1).toNat⟩
theorem markText_int (z : Int) (h1 : 1 ≤ z) (h2 : z ≤ 1000000) (w : World) :
    Calls Tryz.prog 63 #[.int .i64 z] w fun e w' => e = .returned (.string (mt z.toNat)) ∧ Below w.heap.size w w' := by
  have := markText_any z.toNat (by omega) (by omega) w
  rw [show ((z.toNat : Nat) : Int) = z by omega] at this
  exact this
def marks (n : Nat) : List Val := (List.range n).map markV
theorem marks_len (n : Nat) : (marks n).length = n := by unfold marks; simp
theorem marks_get (n i : Nat) (h : i < (marks n).length) : (marks n)[i] = markV i := by simp [marks]
/-- The first k places marked. -/
def markMix (l : List Val) (k : Nat) : List Val := marks k ++ l.drop k
theorem markMix_len (l : List Val) (k : Nat) (h : k ≤ l.length) : (markMix l k).length = l.length := by unfold markMix; rw [List.length_append, marks_len, List.length_drop]; omega
theorem markMix_zero (l : List Val) : markMix l 0 = l := by unfold markMix marks; simp
theorem markMix_full (l : List Val) : markMix l l.length = marks l.length := by unfold markMix; simp
theorem markMix_set (l : List Val) (k : Nat) (h : k < l.length) : (markMix l k).set k (markV k) = markMix l (k + 1) := by
  unfold markMix
  rw [List.set_append_right _ _ (by rw [marks_len]; omega), marks_len, Nat.sub_self]
  have e : marks (k + 1) = marks k ++ [markV k] := by unfold marks; rw [List.range_succ, List.map_append]; rfl
  rw [e, List.append_assoc]
  congr 1
  rw [List.drop_eq_getElem_cons h]; rfl

end Go.Proofs.YtcggkeleaepebaaGreatDoor

/- What the laws' own helpers on rows of fields answer. -/
namespace Go.Proofs.YtcggkeleaepebaaGreatDoor
open Go.RowKit
set_option linter.unusedVariables false

/-- A row of fields that stands at a block's head. -/
structure ReadF (w : World) (g : Nat) (l : List Fld) : Prop where
  lt : g < w.heap.size
  cells : ∀ i (h : i < l.length), w.cell? ⟨g, i * 4, none⟩ = some (.string l[i].name) ∧ w.cell? ⟨g, i * 4 + 1, none⟩ = some (.int .i64 l[i].v.k) ∧ w.cell? ⟨g, i * 4 + 2, none⟩ = some (.int .i64 l[i].v.n) ∧ w.cell? ⟨g, i * 4 + 3, none⟩ = some (.string l[i].v.t)
theorem ReadF.step {w w' : World} {g base : Nat} {l : List Fld} (h : ReadF w g l) (hb : Below base w w') (hg : g < base) : ReadF w' g l :=
  ⟨Nat.lt_of_lt_of_le h.lt hb.size, fun i hi => ⟨(hb.cell hg).trans (h.cells i hi).1, (hb.cell hg).trans (h.cells i hi).2.1, (hb.cell hg).trans (h.cells i hi).2.2.1, (hb.cell hg).trans (h.cells i hi).2.2.2⟩⟩
theorem ReadF.next {w w' : World} {g : Nat} {l : List Fld} (h : ReadF w g l) (hb : Below w.heap.size w w') : ReadF w' g l := h.step hb h.lt
theorem ReadF.of_own {w : World} {base g cap : Nat} {l : List Fld} (h : w.ownsRow base 180 4 (.slice (some ⟨g, 0, none⟩) l.length cap) l.length (flatF l)) : ReadF w g l :=
  ⟨(h.lt g rfl).2, fun i hi => ⟨owns_cell h _ _ (flatF_get l i hi).1, owns_cell h _ _ (flatF_get l i hi).2.1, owns_cell h _ _ (flatF_get l i hi).2.2.1, owns_cell h _ _ (flatF_get l i hi).2.2.2⟩⟩
theorem flatF_cons (f : Fld) (l : List Fld) : flatF (f :: l) = .string f.name :: .int .i64 f.v.k :: .int .i64 f.v.n :: .string f.v.t :: flatF l := rfl
theorem flatF_set : ∀ (l : List Fld) (k : Nat) (f : Fld), k < l.length → ((((flatF l).set (k * 4) (.string f.name)).set (k * 4 + 1) (.int .i64 f.v.k)).set (k * 4 + 2) (.int .i64 f.v.n)).set (k * 4 + 3) (.string f.v.t) = flatF (l.set k f)
  | [], k, f, h => by simp at h
  | u :: l, 0, f, _ => rfl
  | u :: l, k + 1, f, h => by
    rw [List.set_cons_succ, flatF_cons, flatF_cons, ← flatF_set l k f (by simpa using h)]
    rw [show (k + 1) * 4 = k * 4 + 1 + 1 + 1 + 1 by omega]
    rfl

/-- The field that marks place number i. -/
def markF (i : Nat) : Fld := ⟨mt (1 + 4 * (i : Int)).toNat, ⟨1 + 4 * (i : Int) + 1, 1 + 4 * (i : Int) + 1 + 1, mt (1 + 4 * (i : Int) + 1 + 1 + 1).toNat⟩⟩
def marksF (n : Nat) : List Fld := (List.range n).map markF
theorem marksF_len (n : Nat) : (marksF n).length = n := by unfold marksF; simp
theorem marksF_get (n i : Nat) (h : i < (marksF n).length) : (marksF n)[i] = markF i := by simp [marksF]
def markMixF (l : List Fld) (k : Nat) : List Fld := marksF k ++ l.drop k
theorem markMixF_len (l : List Fld) (k : Nat) (h : k ≤ l.length) : (markMixF l k).length = l.length := by unfold markMixF; rw [List.length_append, marksF_len, List.length_drop]; omega
theorem markMixF_zero (l : List Fld) : markMixF l 0 = l := by unfold markMixF marksF; simp
theorem markMixF_full (l : List Fld) : markMixF l l.length = marksF l.length := by unfold markMixF; simp
theorem markMixF_set (l : List Fld) (k : Nat) (h : k < l.length) : (markMixF l k).set k (markF k) = markMixF l (k + 1) := by
  unfold markMixF
  rw [List.set_append_right _ _ (by rw [marksF_len]; omega), marksF_len, Nat.sub_self]
  have e : marksF (k + 1) = marksF k ++ [markF k] := by unfold marksF; rw [List.range_succ, List.map_append]; rfl
  rw [e, List.append_assoc]
  congr 1
  rw [List.drop_eq_getElem_cons h]; rfl
theorem readMarksF {w : World} {base g c : Nat} (n : Nat) (h : w.ownsRow base 180 4 (.slice (some ⟨g, 0, none⟩) n c) n (flatF (marksF n))) : ReadF w g (marksF n) :=
  ReadF.of_own (l := marksF n) (cap := c) (base := base) (by rw [marksF_len]; exact h)

theorem own_there {w : World} {base g c n : Nat} {e : TypeId} {size : Nat} {xs : List Value} (h : w.ownsRow base e size (.slice (some ⟨g, 0, none⟩) n c) n xs) (j : Nat) (hj : j < n * size) : ∃ u, w.cell? ⟨g, j, none⟩ = some u := by
  have := World.ownsRow.cellAt h j hj
  rw [this]
  exact ⟨_, List.getElem?_eq_getElem (by have := h.1; omega)⟩

end Go.Proofs.YtcggkeleaepebaaGreatDoor

/- What the specification's order of values answers, for every two right values. -/
namespace Go.Proofs.YtcggkeleaepebaaGreatDoor
open Go.RowKit
set_option linter.unusedVariables false

theorem cutF_inj (x y : ByteArray) (f : Fld) (r : ByteArray) (hx : cutF x = some (f, r)) (hy : cutF y = some (f, r)) : x = y := by
  have h : ∀ z : ByteArray, cutF z = some (f, r) → ∃ q, cutT z 1 = some (f.name, q) ∧ cutV q = some (f.v, r) := by
    intro z hz
    unfold cutF at hz
    cases ht : cutT z 1 with
    | none => rw [ht] at hz; cases hz
    | some p =>
      obtain ⟨m, q⟩ := p
      rw [ht] at hz
      cases hc : cutV q with
      | none => simp [hc] at hz
      | some p2 =>
        obtain ⟨v, r2⟩ := p2
        simp [hc] at hz
        obtain ⟨rfl, rfl⟩ := hz
        exact ⟨q, rfl, hc⟩
  obtain ⟨q1, t1, c1⟩ := h x hx
  obtain ⟨q2, t2, c2⟩ := h y hy
  have e := cutV_inj q1 q2 _ _ c1 c2
  subst e
  exact cutT_inj x y 1 _ _ t1 t2
theorem fields_inj : ∀ (l : List Fld) (x y : ByteArray), fields x = some l → fields y = some l → x = y
  | [], x, y, hx, hy => by
    have h : ∀ z : ByteArray, fields z = some [] → z = em := by
      intro z hz
      by_cases h0 : z.size = 0
      · exact empty_of z h0
      · cases hc : cutF z with
        | none => rw [fields_none h0 hc] at hz; cases hz
        | some p =>
          obtain ⟨v, r⟩ := p
          rw [fields_cons hc] at hz
          cases hr : fields r with
          | none => rw [hr] at hz; cases hz
          | some q => rw [hr] at hz; cases hz
    rw [h x hx, h y hy]
  | v :: l, x, y, hx, hy => by
    have h : ∀ z : ByteArray, fields z = some (v :: l) → ∃ r, cutF z = some (v, r) ∧ fields r = some l := by
      intro z hz
      by_cases h0 : z.size = 0
      · rw [fields_nil h0] at hz; cases hz
      · cases hc : cutF z with
        | none => rw [fields_none h0 hc] at hz; cases hz
        | some p =>
          obtain ⟨v', r⟩ := p
          rw [fields_cons hc] at hz
          cases hr : fields r with
          | none => rw [hr] at hz; cases hz
          | some q => rw [hr] at hz; injection hz with hz; injection hz with e1 e2; subst e1; subst e2; exact ⟨r, rfl, hr⟩
    obtain ⟨r1, c1, i1⟩ := h x hx
    obtain ⟨r2, c2, i2⟩ := h y hy
    have e := fields_inj l r1 r2 i1 i2
    subst e
    exact cutF_inj x y v r1 c1 c2
theorem ordV_k (d : Nat) (a b : Val) (h : a.k ≠ b.k) : ordV d a b = cI a.k b.k := by cases d <;> (unfold ordV; rw [if_pos h])
theorem ordV_n (d : Nat) (a b : Val) (h : a.k = b.k) (h2 : a.n ≠ b.n) : ordV d a b = cI a.n b.n := by cases d <;> (unfold ordV; rw [if_neg (by simp [h]), if_pos h2])
theorem ordV_t (d : Nat) (a b : Val) (h : a.k = b.k) (h2 : a.n = b.n) (h4 : a.k ≠ 4) (h5 : a.k ≠ 5) : ordV d a b = cB a.t b.t := by
  cases d with
  | zero => unfold ordV; rw [if_neg (by simp [h]), if_neg (by simp [h2])]
  | succ d => unfold ordV; rw [if_neg (by simp [h]), if_neg (by simp [h2]), if_neg h4, if_neg h5]
theorem ordV_list (d : Nat) (a b : Val) (la lb : List Val) (h : a.k = b.k) (h2 : a.n = b.n) (h4 : a.k = 4) (ia : items a.t = some la) (ib : items b.t = some lb) : ordV (d + 1) a b = lexG (ordV d) la lb := by
  rw [ordV, if_neg (by simp [h]), if_neg (by simp [h2]), if_pos h4, ia, ib]; rfl
theorem ordV_doc (d : Nat) (a b : Val) (la lb : List Fld) (h : a.k = b.k) (h2 : a.n = b.n) (h5 : a.k = 5) (ia : fields a.t = some la) (ib : fields b.t = some lb) : ordV (d + 1) a b = lexG (cF (ordV d)) la lb := by
  rw [ordV, if_neg (by simp [h]), if_neg (by simp [h2]), if_neg (by omega), if_pos h5, ia, ib]; rfl
theorem val_ext {a b : Val} (h1 : a.k = b.k) (h2 : a.n = b.n) (h3 : a.t = b.t) : a = b := by cases a; cases b; simp_all
/-- Right values that are neither ahead nor behind are alike. -/
theorem ordV_zero : ∀ (d : Nat) (a b : Val), fits d a = true → fits d b = true → ordV d a b = 0 → a = b
  | d, a, b, ha, hb, h => by
    by_cases hk : a.k = b.k
    · by_cases hn : a.n = b.n
      · by_cases h4 : a.k = 4
        · obtain ⟨e, la, rfl, ia, _, _, alla⟩ := fits_items h4 ha
          obtain ⟨e2, lb, he, ib, _, _, allb⟩ := fits_items (hk ▸ h4) hb
          have : e2 = e := by omega
          subst this
          rw [ordV_list e2 a b la lb hk hn h4 ia ib] at h
          have hl := lexG_zero _ la lb (fun x hx y hy hp => ordV_zero e2 x y (alla x hx).1 (allb y hy).1 hp) h
          subst hl
          exact val_ext hk hn (items_inj la _ _ ia ib)
        · by_cases h5 : a.k = 5
          · obtain ⟨e, la, rfl, ia, _, _, _, alla⟩ := fits_fields h5 ha
            obtain ⟨e2, lb, he, ib, _, _, _, allb⟩ := fits_fields (hk ▸ h5) hb
            have : e2 = e := by omega
            subst this
            rw [ordV_doc e2 a b la lb hk hn h5 ia ib] at h
            have hl := lexG_zero _ la lb (fun x hx y hy hp => by
              unfold cF at hp
              split at hp
              · rename_i hm
                have e1 := (cB_zero _ _).mp hm
                have e2 := ordV_zero e2 x.v y.v (alla x hx).1 (allb y hy).1 hp
                cases x; cases y; simp_all
              · rename_i hm; exact absurd hp hm) h
            subst hl
            exact val_ext hk hn (fields_inj la _ _ ia ib)
          · rw [ordV_t d a b hk hn h4 h5] at h
            exact val_ext hk hn ((cB_zero _ _).mp h)
      · rw [ordV_n d a b hk hn] at h; exact absurd ((cI_zero _ _).mp h) hn
    · rw [ordV_k d a b hk] at h; exact absurd ((cI_zero _ _).mp h) hk
  termination_by d => d
  decreasing_by all_goals omega

set_option maxHeartbeats 400000 in
theorem l01Bit_any (b : Bool) (w : World) : Calls Tryz.prog 180 #[.bool b] w fun e w' => e = .returned (.int .i64 (if b then 1 else 0)) ∧ w' = w := by
  cases b
  · go_enter Tryz.func180, Tryz.ntmps180
    go_wp2
    go_ret
    exact ⟨rfl, rfl⟩
  · go_enter Tryz.func180, Tryz.ntmps180
    go_wp2
    go_ret
    exact ⟨rfl, rfl⟩
set_option maxRecDepth 4000 in
set_option maxHeartbeats 1000000 in
theorem l01Order_k (k n k' n' : Int) (t t' : ByteArray) (w : World) (h : k ≠ k') :
    Calls Tryz.prog 166 #[.agg #[.int .i64 k, .int .i64 n, .string t], .agg #[.int .i64 k', .int .i64 n', .string t']] w fun e w' => e = .returned (.int .i64 (cI k k')) ∧ Below w.heap.size w w' := by
  have hb : (k == k') = false := beq_eq_false_iff_ne.mpr h
  rw [cI_ne k k' h]
  by_cases hg : k' < k
  · rw [if_pos hg]
    go_enter Tryz.func166, Tryz.ntmps166
    go_wp2_with (go_at_call 180; refine (l01Bit_any _ _).mono ?_; rintro e w1 ⟨rfl, rfl⟩)
    go_ret
    exact ⟨by simp, by (repeat (first | (with_reducible exact Below.refl _ _) | (with_reducible assumption) | (with_reducible apply below_drewN) | (with_reducible apply Below.drew) | ((with_reducible refine Below.setCell ?_ ?_ _); rotate_left; focus (first | (simp; done) | (simp; omega) | omega)) | ((with_reducible refine Below.alloc ?_ ?_ _); rotate_left; focus (first | (simp; done) | (simp; omega) | omega))))⟩
  · rw [if_neg hg]
    go_enter Tryz.func166, Tryz.ntmps166
    go_wp2_with (go_at_call 180; refine (l01Bit_any _ _).mono ?_; rintro e w1 ⟨rfl, rfl⟩)
    go_ret
    exact ⟨by simp, by (repeat (first | (with_reducible exact Below.refl _ _) | (with_reducible assumption) | (with_reducible apply below_drewN) | (with_reducible apply Below.drew) | ((with_reducible refine Below.setCell ?_ ?_ _); rotate_left; focus (first | (simp; done) | (simp; omega) | omega)) | ((with_reducible refine Below.alloc ?_ ?_ _); rotate_left; focus (first | (simp; done) | (simp; omega) | omega))))⟩

set_option maxRecDepth 4000 in
set_option maxHeartbeats 1000000 in
theorem l01Order_n (k n n' : Int) (t t' : ByteArray) (w : World) (h : n ≠ n') :
    Calls Tryz.prog 166 #[.agg #[.int .i64 k, .int .i64 n, .string t], .agg #[.int .i64 k, .int .i64 n', .string t']] w fun e w' => e = .returned (.int .i64 (cI n n')) ∧ Below w.heap.size w w' := by
  have hb : (n == n') = false := beq_eq_false_iff_ne.mpr h
  rw [cI_ne n n' h]
  by_cases hg : n' < n
  · rw [if_pos hg]
    go_enter Tryz.func166, Tryz.ntmps166
    go_wp2_with (go_at_call 180; refine (l01Bit_any _ _).mono ?_; rintro e w1 ⟨rfl, rfl⟩)
    go_ret
    exact ⟨by simp, by (repeat (first | (with_reducible exact Below.refl _ _) | (with_reducible assumption) | (with_reducible apply below_drewN) | (with_reducible apply Below.drew) | ((with_reducible refine Below.setCell ?_ ?_ _); rotate_left; focus (first | (simp; done) | (simp; omega) | omega)) | ((with_reducible refine Below.alloc ?_ ?_ _); rotate_left; focus (first | (simp; done) | (simp; omega) | omega))))⟩
  · rw [if_neg hg]
    go_enter Tryz.func166, Tryz.ntmps166
    go_wp2_with (go_at_call 180; refine (l01Bit_any _ _).mono ?_; rintro e w1 ⟨rfl, rfl⟩)
    go_ret
    exact ⟨by simp, by (repeat (first | (with_reducible exact Below.refl _ _) | (with_reducible assumption) | (with_reducible apply below_drewN) | (with_reducible apply Below.drew) | ((with_reducible refine Below.setCell ?_ ?_ _); rotate_left; focus (first | (simp; done) | (simp; omega) | omega)) | ((with_reducible refine Below.alloc ?_ ?_ _); rotate_left; focus (first | (simp; done) | (simp; omega) | omega))))⟩
set_option maxRecDepth 4000 in
set_option maxHeartbeats 1000000 in
theorem l01Order_same (k n : Int) (t : ByteArray) (w : World) :
    Calls Tryz.prog 166 #[.agg #[.int .i64 k, .int .i64 n, .string t], .agg #[.int .i64 k, .int .i64 n, .string t]] w fun e w' => e = .returned (.int .i64 0) ∧ Below w.heap.size w w' := by
  go_enter Tryz.func166, Tryz.ntmps166
  go_wp2_with fail
  go_ret
  exact ⟨rfl, by (repeat (first | (with_reducible exact Below.refl _ _) | (with_reducible assumption) | (with_reducible apply below_drewN) | (with_reducible apply Below.drew) | ((with_reducible refine Below.setCell ?_ ?_ _); rotate_left; focus (first | (simp; done) | (simp; omega) | omega)) | ((with_reducible refine Below.alloc ?_ ?_ _); rotate_left; focus (first | (simp; done) | (simp; omega) | omega))))⟩
theorem toList_ne {a b : ByteArray} (h : a ≠ b) : (a.toList == b.toList) = false := by
  rw [ByteArray.toList_eq, ByteArray.toList_eq]
  exact beq_eq_false_iff_ne.mpr (fun e => h (ba_ext e))
set_option maxRecDepth 4000 in
set_option maxHeartbeats 1000000 in
theorem l01Order_text (n : Int) (t t' : ByteArray) (w : World) (h : t ≠ t') :
    Calls Tryz.prog 166 #[.agg #[.int .i64 3, .int .i64 n, .string t], .agg #[.int .i64 3, .int .i64 n, .string t']] w fun e w' => e = .returned (.int .i64 (cB t t')) ∧ Below w.heap.size w w' := by
  have hb := toList_ne h
  rw [cB_ne t t' h]
  cases hg : ltB t' t
  · have hg' : Op.bytesLess t.toList t'.toList = true := by have := leB_not t t'; rw [hb, hg] at this; simpa using this
    clear hg
    go_enter Tryz.func166, Tryz.ntmps166
    go_wp2_with (go_at_call 180; refine (l01Bit_any _ _).mono ?_; rintro e w1 ⟨rfl, rfl⟩)
    go_ret
    exact ⟨by simp, by (repeat (first | (with_reducible exact Below.refl _ _) | (with_reducible assumption) | (with_reducible apply below_drewN) | (with_reducible apply Below.drew) | ((with_reducible refine Below.setCell ?_ ?_ _); rotate_left; focus (first | (simp; done) | (simp; omega) | omega)) | ((with_reducible refine Below.alloc ?_ ?_ _); rotate_left; focus (first | (simp; done) | (simp; omega) | omega))))⟩
  · have hg' : Op.bytesLess t.toList t'.toList = false := by have := leB_not t t'; rw [hb, hg] at this; simpa using this
    clear hg
    go_enter Tryz.func166, Tryz.ntmps166
    go_wp2_with (go_at_call 180; refine (l01Bit_any _ _).mono ?_; rintro e w1 ⟨rfl, rfl⟩)
    go_ret
    exact ⟨by simp, by (repeat (first | (with_reducible exact Below.refl _ _) | (with_reducible assumption) | (with_reducible apply below_drewN) | (with_reducible apply Below.drew) | ((with_reducible refine Below.setCell ?_ ?_ _); rotate_left; focus (first | (simp; done) | (simp; omega) | omega)) | ((with_reducible refine Below.alloc ?_ ?_ _); rotate_left; focus (first | (simp; done) | (simp; omega) | omega))))⟩

def l01OrderAt (d : Nat) : Prop := ∀ (a b : Val) (w : World), a.t.size ≤ 1048576 → b.t.size ≤ 1048576 → fits d a = true → fits d b = true →
    Calls Tryz.prog 166 #[.agg #[.int .i64 a.k, .int .i64 a.n, .string a.t], .agg #[.int .i64 b.k, .int .i64 b.n, .string b.t]] w fun e w' => e = .returned (.int .i64 (ordV d a b)) ∧ Below w.heap.size w w'
set_option maxRecDepth 4000 in
set_option maxHeartbeats 2000000 in
theorem l01Order_list (d : Nat) (ih : l01OrderAt d) (n : Int) (t t' : ByteArray) (la lb : List Val) (w : World) (hs : t.size ≤ 1048576) (hs' : t'.size ≤ 1048576) (hne : t ≠ t') (hi : items t = some la) (hi' : items t' = some lb)
    (hall : ∀ u ∈ la, fits d u = true ∧ u.t.size ≤ t.size) (hall' : ∀ u ∈ lb, fits d u = true ∧ u.t.size ≤ t'.size) :
    Calls Tryz.prog 166 #[.agg #[.int .i64 4, .int .i64 n, .string t], .agg #[.int .i64 4, .int .i64 n, .string t']] w fun e w' => e = .returned (.int .i64 (lexG (ordV d) la lb)) ∧ Below w.heap.size w w' := by
  have hb := toList_ne hne
  have hnz : lexG (ordV d) la lb ≠ 0 := fun h => hne (by
    have := lexG_zero _ la lb (fun x hx y hy hp => ordV_zero d x y (hall x hx).1 (hall' y hy).1 hp) h
    subst this
    exact items_inj la _ _ hi hi')
  obtain ⟨R, hR⟩ : ∃ R, R = lexG (ordV d) la lb := ⟨_, rfl⟩
  rw [← hR] at hnz
  rw [← hR]
  have hlen := (items_len t.size t la (Nat.le_refl _) hi).1
  have hlen' := (items_len t'.size t' lb (Nat.le_refl _) hi').1
  have HR : Hid _ := hR
  have HZ : Hid _ := hnz
  have HI : Hid _ := hi
  have HI' : Hid _ := hi'
  have HA : Hid _ := hall
  have HA' : Hid _ := hall'
  have X0 := Boxed.start w (.int .i64 4) (.int .i64 n) (.string t) 82
  have Y0 := Boxed.start (w.alloc (.cells #[.int .i64 4, .int .i64 n, .string t] 82)) (.int .i64 4) (.int .i64 n) (.string t') 82
  have X1 := X0.step Y0.bel
  clear hR hnz hi hi' hall hall' hne X0
  go_enter Tryz.func166, Tryz.ntmps166
  go_wp2_with fail
  refine (l01Items_any t _ hs).mono ?_
  rintro e w1 ⟨⟨g, m, cap, rfl, hown0⟩, hb1⟩
  obtain ⟨rfl, hown⟩ := hown0 la HI.out
  clear hown0
  rw [HI.out]
  have X2 := X1.step hb1
  have Y2 := Y0.step hb1
  have y0 := Y2.c0
  have y1 := Y2.c1
  have y2 := Y2.c2
  simp only [heap_size_alloc] at y0 y1 y2
  have RA : Hid _ := ReadV.of_own hown
  clear hb1 hown X1 Y0
  go_wp2_with fail
  refine (l01Items_any t' _ hs').mono ?_
  rintro e w2 ⟨⟨g', m', cap', rfl, hown0⟩, hb1⟩
  obtain ⟨rfl, hown⟩ := hown0 lb HI'.out
  clear hown0
  rw [HI'.out]
  have X3 := X2.step hb1
  have RB : Hid _ := ReadV.of_own hown
  have RA2 : Hid _ := RA.out.next hb1
  have hbw := X3.bel
  clear hb1 hown X2 Y2 y0 y1 y2 X3 RA
  go_wp2_with fail
  go_loopw [9] (fun i wr => ∃ k : Nat, k ≤ la.length ∧ k ≤ lb.length ∧ i = .int .i64 k ∧ R = lexG (ordV d) (la.drop k) (lb.drop k) ∧ Below w2.heap.size w2 wr) (fun i _ => la.length - (intOf i).toNat)
  case atStart => exact ⟨0, Nat.zero_le _, Nat.zero_le _, rfl, HR.out, Below.refl _ _⟩
  case round =>
    obtain ⟨k, hk, hk', rfl, hr, hbel⟩ := hrel
    have HT : Hid _ := hr
    clear hr HR
    have hz := hbel.size
    have hbw2 : Below w.heap.size w wr := hbw.trans (hbel.mono hbw.size)
    by_cases hlt : k < la.length
    · by_cases hlt' : k < lb.length
      · have x1 := (RA2.out.next hbel).cells k hlt
        have x2 := (RB.out.next hbel).cells k hlt'
        have l1 := (RA2.out.next hbel).lt
        have l2 := (RB.out.next hbel).lt
        have hk1 : (k : Int) < (la.length : Int) := by omega
        have hk2 : (k : Int) < (lb.length : Int) := by omega
        have q0 : ∀ u : Under wr, u.x.cell? ⟨g, k * 3, none⟩ = some (.int .i64 la[k].k) := fun u => (u.h.cell l1).trans x1.1
        have q1 : ∀ u : Under wr, u.x.cell? ⟨g, k * 3 + 1, none⟩ = some (.int .i64 la[k].n) := fun u => (u.h.cell l1).trans x1.2.1
        have q2 : ∀ u : Under wr, u.x.cell? ⟨g, k * 3 + 2, none⟩ = some (.string la[k].t) := fun u => (u.h.cell l1).trans x1.2.2
        have r0 : ∀ u : Under wr, u.x.cell? ⟨g', k * 3, none⟩ = some (.int .i64 lb[k].k) := fun u => (u.h.cell l2).trans x2.1
        have r1 : ∀ u : Under wr, u.x.cell? ⟨g', k * 3 + 1, none⟩ = some (.int .i64 lb[k].n) := fun u => (u.h.cell l2).trans x2.2.1
        have r2 : ∀ u : Under wr, u.x.cell? ⟨g', k * 3 + 2, none⟩ = some (.string lb[k].t) := fun u => (u.h.cell l2).trans x2.2.2
        have hnu : Nonempty (Under wr) := ⟨⟨wr, Below.refl _ _⟩⟩
        have hq := HA.out la[k] (List.getElem_mem _)
        have hq' := HA'.out lb[k] (List.getElem_mem _)
        have HC0 : ∀ W : World, Calls Tryz.prog 166 #[.agg #[.int .i64 la[k].k, .int .i64 la[k].n, .string la[k].t], .agg #[.int .i64 lb[k].k, .int .i64 lb[k].n, .string lb[k].t]] W fun e w' => e = .returned (.int .i64 (ordV d la[k] lb[k])) ∧ Below W.heap.size W w' := fun W => ih la[k] lb[k] W (by omega) (by omega) hq.1 hq'.1
        have hstep := lexG_step (ordV d) la lb k hlt hlt'
        rw [← HT.out] at hstep
        obtain ⟨O, hO⟩ : ∃ O, O = ordV d la[k] lb[k] := ⟨_, rfl⟩
        rw [← hO] at HC0 hstep
        have HC : Hid _ := HC0
        have HS : Hid _ := hstep
        clear x1 x2 hq hq' HC0 hstep hO HT
        by_cases hO0 : O = 0
        · have e0 : (O == 0) = true := by simp [hO0]
          go_wp2_with fail
          refine wp_region_under (by kernel_rfl) (by kernel_rfl) ?_
          repeat (go_big_quiet_step ((go_at_call 166; exact calls_under _ (HC.out _))))
          refine wpQuiet_nil ?_
          rintro _ ⟨u, rfl⟩
          go_wp2_with fail
          go_roundw
          case rel => exact ⟨k + 1, by omega, by omega, by go_num, by rw [HS.out, if_pos hO0], hbel.trans (u.h.mono hbel.size)⟩
          case measure => simp [intOf]; omega
        · have e0 : (O == 0) = false := beq_eq_false_iff_ne.mpr hO0
          go_wp2_with fail
          refine wp_region_under (by kernel_rfl) (by kernel_rfl) ?_
          repeat (go_big_quiet_step ((go_at_call 166; exact calls_under _ (HC.out _))))
          refine wpQuiet_nil ?_
          rintro _ ⟨u, rfl⟩
          go_wp2_with fail
          go_ret
          exact ⟨by rw [HS.out, if_neg hO0]; rfl, hbw2.trans (u.h.mono hbw2.size)⟩
      · have hkl : ¬ (k : Int) < (lb.length : Int) := by omega
        have hR1 : R = 1 := by rw [HT.out]; exact lexG_end2 _ la lb k hlt (by omega)
        have hgt : (lb.length : Int) < (la.length : Int) := by omega
        go_wp2_with (go_at_call 180; refine (l01Bit_any _ _).mono ?_; rintro e w3 ⟨rfl, rfl⟩)
        go_ret
        exact ⟨by rw [hR1]; simp, hbw2⟩
    · have hR1 := lexG_end1 (ordV d) la lb k (by omega)
      rw [← HT.out] at hR1
      by_cases h2 : k < lb.length
      · rw [if_pos h2] at hR1
        have hgt : ¬ (lb.length : Int) < (la.length : Int) := by omega
        go_wp2_with (go_at_call 180; refine (l01Bit_any _ _).mono ?_; rintro e w3 ⟨rfl, rfl⟩)
        go_ret
        exact ⟨by rw [hR1]; simp, hbw2⟩
      · rw [if_neg h2] at hR1; exact absurd hR1 HZ.out

end Go.Proofs.YtcggkeleaepebaaGreatDoor

/- What a term lets in, said plainly. Nothing of the program is used here. -/
namespace Go.Proofs.YtcggkeleaepebaaGreatDoor
open Go.RowKit
set_option linter.unusedVariables false

instance : DecidableEq Val := fun a b =>
  if h : a.k = b.k ∧ a.n = b.n ∧ a.t = b.t then isTrue (val_ext h.1 h.2.1 h.2.2) else isFalse (fun e => h (by subst e; exact ⟨rfl, rfl, rfl⟩))
/-- Does one value do what a term asks. -/
def oneT (op : Int) (c v : Val) : Bool :=
  if op = 1 ∨ op = 2 then decide (v = c)
  else if op = 3 then decide (v.k = c.k) && decide (ordV 5 v c < 0)
  else if op = 4 then decide (v.k = c.k) && decide (ordV 5 v c ≤ 0)
  else if op = 5 then decide (v.k = c.k) && decide (0 < ordV 5 v c)
  else if op = 6 then decide (v.k = c.k) && decide (0 ≤ ordV 5 v c)
  else if op = 7 then (itms c).any (fun u => decide (u = v))
  else if op = 9 then decide (v.k = c.n)
  else if op = 10 then decide (v.k = 4) && decide (((itms v).length : Int) = c.n)
  else true
def fitsO (op o : Int) : Bool := if op = 3 then decide (o < 0) else if op = 4 then decide (o ≤ 0) else if op = 5 then decide (0 < o) else decide (0 ≤ o)
theorem oneT_ord (op : Int) (c v : Val) (h : op = 3 ∨ op = 4 ∨ op = 5 ∨ op = 6) : oneT op c v = (decide (v.k = c.k) && fitsO op (ordV 5 v c)) := by
  rcases h with rfl | rfl | rfl | rfl <;> simp [oneT, fitsO]
/-- What is held against a term: null where nothing is, but for type. -/
def heldT (op : Int) (l : List Val) : List Val := if l = [] then (if op = 9 then [] else [⟨0, 0, em⟩]) else l
/-- Does a term let in a document in which its path comes to these values. -/
def letsT (op : Int) (c : Val) (l : List Val) : Bool :=
  if op = 8 then (decide (0 < (l.length : Int)) == decide (c.n = 1)) else ((heldT op l).any (oneT op c) != decide (op = 2))
/-- Does a term let in a document. -/
def termL (op : Int) (p : ByteArray) (c doc : Val) : Bool := letsT op c (getP (pieces p) doc)
/-- Is a value a right document. -/
def docB (v : Val) : Bool := decide (v.k = 5) && okB v
theorem getP_ok : ∀ (ws : List ByteArray) (v : Val), okB v = true → ∀ u ∈ getP ws v, okB u = true
  | [], v, h, u, hu => by
    rw [getP_end] at hu
    rcases List.mem_cons.mp hu with rfl | hu
    · exact h
    · split at hu
      · rename_i h4
        obtain ⟨_, _, _, d', hd, hall⟩ := list_parts 5 v h h4
        exact (fits_depth d' u (hall u hu).1 5 (by omega)).1
      · cases hu
  | nm :: ws, v, h, u, hu => by
    have ih := getP_ok ws
    have hdoc : ∀ x : Val, okB x = true → x.k = 5 → ∀ u ∈ docP (getP ws) nm x, okB u = true := by
      intro x hx h5 u hu
      obtain ⟨_, _, _, _, d', hd, hall, _⟩ := doc_parts 5 x hx h5
      cases hfv : fieldV nm (flds x) with
      | none => rw [docP_none _ _ _ hfv] at hu; cases hu
      | some y =>
        rw [docP_some _ _ _ y hfv] at hu
        obtain ⟨f, hf, rfl⟩ := fieldV_mem nm y _ hfv
        exact ih f.v (fits_depth d' f.v (hall f hf).1 5 (by omega)).1 u hu
    by_cases h5 : v.k = 5
    · rw [getP_doc nm ws v h5] at hu
      exact hdoc v h h5 u hu
    · by_cases h4 : v.k = 4
      · rw [getP_list nm ws v h4] at hu
        obtain ⟨it, hit, hu⟩ := List.mem_flatMap.mp hu
        obtain ⟨_, _, _, d', hd, hall⟩ := list_parts 5 v h h4
        have hok : okB it = true := (fits_depth d' it (hall it hit).1 5 (by omega)).1
        split at hu
        · rename_i h5'
          exact hdoc it hok h5' u hu
        · cases hu
      · rw [getP_none nm ws v h5 h4] at hu; cases hu
theorem ok_zero : okB ⟨0, 0, em⟩ = true := by
  unfold okB; rw [fits_base 5 _ (by show (0 : Int) ≠ 4; decide) (by show (0 : Int) ≠ 5; decide)]; rfl
theorem heldT_ok (op : Int) (l : List Val) (h : ∀ u ∈ l, okB u = true) : ∀ u ∈ heldT op l, okB u = true := by
  intro u hu
  unfold heldT at hu
  split at hu
  · split at hu
    · cases hu
    · simp at hu; subst hu; exact ok_zero
  · exact h u hu
theorem ok_size (v : Val) (h : okB v = true) : v.t.size ≤ 300 := by
  rcases Nat.lt_or_ge 300 v.t.size with h' | h'
  · rw [ok_big v h'] at h; cases h
  · exact h'
theorem ok_items (v : Val) (h : okB v = true) (h4 : v.k = 4) : items v.t = some (itms v) ∧ (itms v).length ≤ 300 ∧ ∀ u ∈ itms v, okB u = true := by
  obtain ⟨_, hi, hl, d', hd, hall⟩ := list_parts 5 v h h4
  exact ⟨hi, hl, fun u hu => (fits_depth d' u (hall u hu).1 5 (by omega)).1⟩

end Go.Proofs.YtcggkeleaepebaaGreatDoor

/- What the specification's order of values answers, for every two right values. -/
namespace Go.Proofs.YtcggkeleaepebaaGreatDoor
open Go.RowKit
set_option linter.unusedVariables false

set_option maxRecDepth 4000 in
set_option maxHeartbeats 4000000 in
theorem l01Order_doc (d : Nat) (ih : l01OrderAt d) (n : Int) (t t' : ByteArray) (la lb : List Fld) (w : World) (hs : t.size ≤ 1048576) (hs' : t'.size ≤ 1048576) (hne : t ≠ t') (hi : fields t = some la) (hi' : fields t' = some lb)
    (hall : ∀ f ∈ la, fits d f.v = true ∧ f.v.t.size ≤ t.size ∧ f.name.size ≤ t.size) (hall' : ∀ f ∈ lb, fits d f.v = true ∧ f.v.t.size ≤ t'.size ∧ f.name.size ≤ t'.size) :
    Calls Tryz.prog 166 #[.agg #[.int .i64 5, .int .i64 n, .string t], .agg #[.int .i64 5, .int .i64 n, .string t']] w fun e w' => e = .returned (.int .i64 (lexG (cF (ordV d)) la lb)) ∧ Below w.heap.size w w' := by
  have hb := toList_ne hne
  have hnz : lexG (cF (ordV d)) la lb ≠ 0 := fun h => hne (by
    have := lexG_zero _ la lb (fun x hx y hy hp => by
      unfold cF at hp
      split at hp
      · rename_i hm
        have e1 := (cB_zero _ _).mp hm
        have e2 := ordV_zero d x.v y.v (hall x hx).1 (hall' y hy).1 hp
        cases x; cases y; simp_all
      · rename_i hm; exact absurd hp hm) h
    subst this
    exact fields_inj la _ _ hi hi')
  obtain ⟨R, hR⟩ : ∃ R, R = lexG (cF (ordV d)) la lb := ⟨_, rfl⟩
  rw [← hR] at hnz
  rw [← hR]
  have hlen := (fields_len t.size t la (Nat.le_refl _) hi).1
  have hlen' := (fields_len t'.size t' lb (Nat.le_refl _) hi').1
  have HR : Hid _ := hR
  have HZ : Hid _ := hnz
  have HI : Hid _ := hi
  have HI' : Hid _ := hi'
  have HA : Hid _ := hall
  have HA' : Hid _ := hall'
  have X0 := Boxed.start w (.int .i64 5) (.int .i64 n) (.string t) 82
  have Y0 := Boxed.start (w.alloc (.cells #[.int .i64 5, .int .i64 n, .string t] 82)) (.int .i64 5) (.int .i64 n) (.string t') 82
  have X1 := X0.step Y0.bel
  clear hR hnz hi hi' hall hall' hne X0
  go_enter Tryz.func166, Tryz.ntmps166
  go_wp2_with fail
  refine (l01Fields_any t _ hs).mono ?_
  rintro e w1 ⟨⟨g, m, cap, rfl, hown0⟩, hb1⟩
  obtain ⟨rfl, hown⟩ := hown0 la HI.out
  clear hown0
  rw [HI.out]
  have X2 := X1.step hb1
  have Y2 := Y0.step hb1
  have y0 := Y2.c0
  have y1 := Y2.c1
  have y2 := Y2.c2
  simp only [heap_size_alloc] at y0 y1 y2
  have RA : Hid _ := ReadF.of_own hown
  clear hb1 hown X1 Y0
  go_wp2_with fail
  refine (l01Fields_any t' _ hs').mono ?_
  rintro e w2 ⟨⟨g', m', cap', rfl, hown0⟩, hb1⟩
  obtain ⟨rfl, hown⟩ := hown0 lb HI'.out
  clear hown0
  rw [HI'.out]
  have X3 := X2.step hb1
  have RB : Hid _ := ReadF.of_own hown
  have RA2 : Hid _ := RA.out.next hb1
  have hbw := X3.bel
  clear hb1 hown X2 Y2 y0 y1 y2 X3 RA
  go_wp2_with fail
  go_loopw [15] (fun i wr => ∃ k : Nat, k ≤ la.length ∧ k ≤ lb.length ∧ i = .int .i64 k ∧ R = lexG (cF (ordV d)) (la.drop k) (lb.drop k) ∧ Below w2.heap.size w2 wr) (fun i _ => la.length - (intOf i).toNat)
  case atStart => exact ⟨0, Nat.zero_le _, Nat.zero_le _, rfl, HR.out, Below.refl _ _⟩
  case round =>
    obtain ⟨k, hk, hk', rfl, hr, hbel⟩ := hrel
    have HT : Hid _ := hr
    clear hr HR
    have hz := hbel.size
    have hbw2 : Below w.heap.size w wr := hbw.trans (hbel.mono hbw.size)
    by_cases hlt : k < la.length
    · by_cases hlt' : k < lb.length
      · have x1 := (RA2.out.next hbel).cells k hlt
        have x2 := (RB.out.next hbel).cells k hlt'
        have l1 := (RA2.out.next hbel).lt
        have l2 := (RB.out.next hbel).lt
        have hk1 : (k : Int) < (la.length : Int) := by omega
        have hk2 : (k : Int) < (lb.length : Int) := by omega
        have q0 : ∀ u : Under wr, u.x.cell? ⟨g, k * 4, none⟩ = some (.string la[k].name) := fun u => (u.h.cell l1).trans (x1.1)
        have q1 : ∀ u : Under wr, u.x.cell? ⟨g, k * 4 + 1, none⟩ = some (.int .i64 la[k].v.k) := fun u => (u.h.cell l1).trans (x1.2.1)
        have q2 : ∀ u : Under wr, u.x.cell? ⟨g, k * 4 + 2, none⟩ = some (.int .i64 la[k].v.n) := fun u => (u.h.cell l1).trans (x1.2.2.1)
        have q3 : ∀ u : Under wr, u.x.cell? ⟨g, k * 4 + 3, none⟩ = some (.string la[k].v.t) := fun u => (u.h.cell l1).trans (x1.2.2.2)
        have r0 : ∀ u : Under wr, u.x.cell? ⟨g', k * 4, none⟩ = some (.string lb[k].name) := fun u => (u.h.cell l2).trans (x2.1)
        have r1 : ∀ u : Under wr, u.x.cell? ⟨g', k * 4 + 1, none⟩ = some (.int .i64 lb[k].v.k) := fun u => (u.h.cell l2).trans (x2.2.1)
        have r2 : ∀ u : Under wr, u.x.cell? ⟨g', k * 4 + 2, none⟩ = some (.int .i64 lb[k].v.n) := fun u => (u.h.cell l2).trans (x2.2.2.1)
        have r3 : ∀ u : Under wr, u.x.cell? ⟨g', k * 4 + 3, none⟩ = some (.string lb[k].v.t) := fun u => (u.h.cell l2).trans (x2.2.2.2)
        have hnu : Nonempty (Under wr) := ⟨⟨wr, Below.refl _ _⟩⟩
        have hstep := lexG_step (cF (ordV d)) la lb k hlt hlt'
        rw [← HT.out] at hstep
        have HS : Hid _ := hstep
        clear x1 x2 hstep HT
        by_cases hnm : la[k].name = lb[k].name
        · have hq := HA.out la[k] (List.getElem_mem _)
          have hq' := HA'.out lb[k] (List.getElem_mem _)
          have HC0 : ∀ W : World, Calls Tryz.prog 166 #[.agg #[.int .i64 la[k].v.k, .int .i64 la[k].v.n, .string la[k].v.t], .agg #[.int .i64 lb[k].v.k, .int .i64 lb[k].v.n, .string lb[k].v.t]] W fun e w' => e = .returned (.int .i64 (ordV d la[k].v lb[k].v)) ∧ Below W.heap.size W w' := fun W => ih la[k].v lb[k].v W (by omega) (by omega) hq.1 hq'.1
          have hcf : cF (ordV d) la[k] lb[k] = ordV d la[k].v lb[k].v := by unfold cF; rw [if_pos ((cB_zero _ _).mpr hnm)]
          have hst2 := HS.out
          rw [hcf] at hst2
          obtain ⟨O, hO⟩ : ∃ O, O = ordV d la[k].v lb[k].v := ⟨_, rfl⟩
          rw [← hO] at HC0 hst2
          have HC : Hid _ := HC0
          have HS2 : Hid _ := hst2
          have hnb : (la[k].name.toList == lb[k].name.toList) = true := by rw [hnm]; simp
          clear hq hq' HC0 hst2 hO hcf HS
          have hnm2 := hnm
          clear hnm
          by_cases hO0 : O = 0
          · have e0 : (O == 0) = true := by simp [hO0]
            go_wp2_with fail
            refine wp_region_under (by kernel_rfl) (by kernel_rfl) ?_
            repeat (go_big_quiet_step (fail))
            refine wpQuiet_nil ?_
            rintro _ ⟨u, rfl⟩
            have l1' : g < u.x.heap.size := Nat.lt_of_lt_of_le l1 u.h.size
            have l2' : g' < u.x.heap.size := Nat.lt_of_lt_of_le l2 u.h.size
            have p0 : ∀ u2 : Under u.x, u2.x.cell? ⟨g, k * 4, none⟩ = some (.string la[k].name) := fun u2 => (u2.h.cell l1').trans (q0 u)
            have p1 : ∀ u2 : Under u.x, u2.x.cell? ⟨g, k * 4 + 1, none⟩ = some (.int .i64 la[k].v.k) := fun u2 => (u2.h.cell l1').trans (q1 u)
            have p2 : ∀ u2 : Under u.x, u2.x.cell? ⟨g, k * 4 + 2, none⟩ = some (.int .i64 la[k].v.n) := fun u2 => (u2.h.cell l1').trans (q2 u)
            have p3 : ∀ u2 : Under u.x, u2.x.cell? ⟨g, k * 4 + 3, none⟩ = some (.string la[k].v.t) := fun u2 => (u2.h.cell l1').trans (q3 u)
            have s0 : ∀ u2 : Under u.x, u2.x.cell? ⟨g', k * 4, none⟩ = some (.string lb[k].name) := fun u2 => (u2.h.cell l2').trans (r0 u)
            have s1 : ∀ u2 : Under u.x, u2.x.cell? ⟨g', k * 4 + 1, none⟩ = some (.int .i64 lb[k].v.k) := fun u2 => (u2.h.cell l2').trans (r1 u)
            have s2 : ∀ u2 : Under u.x, u2.x.cell? ⟨g', k * 4 + 2, none⟩ = some (.int .i64 lb[k].v.n) := fun u2 => (u2.h.cell l2').trans (r2 u)
            have s3 : ∀ u2 : Under u.x, u2.x.cell? ⟨g', k * 4 + 3, none⟩ = some (.string lb[k].v.t) := fun u2 => (u2.h.cell l2').trans (r3 u)
            have hnu2 : Nonempty (Under u.x) := ⟨⟨u.x, Below.refl _ _⟩⟩
            have hb2 : Below w2.heap.size w2 u.x := hbel.trans (u.h.mono hbel.size)
            have hb3 : Below w.heap.size w u.x := hbw2.trans (u.h.mono hbw2.size)
            go_wp2_with fail
            refine wp_region_under (by kernel_rfl) (by kernel_rfl) ?_
            repeat (go_big_quiet_step ((go_at_call 166; exact calls_under _ (HC.out _))))
            refine wpQuiet_nil ?_
            rintro _ ⟨u2, rfl⟩
            go_wp2_with fail
            go_roundw
            case rel => exact ⟨k + 1, by omega, by omega, by go_num, by rw [HS2.out, if_pos hO0], hb2.trans (u2.h.mono hb2.size)⟩
            case measure => simp [intOf]; omega
          · have e0 : (O == 0) = false := beq_eq_false_iff_ne.mpr hO0
            go_wp2_with fail
            refine wp_region_under (by kernel_rfl) (by kernel_rfl) ?_
            repeat (go_big_quiet_step (fail))
            refine wpQuiet_nil ?_
            rintro _ ⟨u, rfl⟩
            have l1' : g < u.x.heap.size := Nat.lt_of_lt_of_le l1 u.h.size
            have l2' : g' < u.x.heap.size := Nat.lt_of_lt_of_le l2 u.h.size
            have p0 : ∀ u2 : Under u.x, u2.x.cell? ⟨g, k * 4, none⟩ = some (.string la[k].name) := fun u2 => (u2.h.cell l1').trans (q0 u)
            have p1 : ∀ u2 : Under u.x, u2.x.cell? ⟨g, k * 4 + 1, none⟩ = some (.int .i64 la[k].v.k) := fun u2 => (u2.h.cell l1').trans (q1 u)
            have p2 : ∀ u2 : Under u.x, u2.x.cell? ⟨g, k * 4 + 2, none⟩ = some (.int .i64 la[k].v.n) := fun u2 => (u2.h.cell l1').trans (q2 u)
            have p3 : ∀ u2 : Under u.x, u2.x.cell? ⟨g, k * 4 + 3, none⟩ = some (.string la[k].v.t) := fun u2 => (u2.h.cell l1').trans (q3 u)
            have s0 : ∀ u2 : Under u.x, u2.x.cell? ⟨g', k * 4, none⟩ = some (.string lb[k].name) := fun u2 => (u2.h.cell l2').trans (r0 u)
            have s1 : ∀ u2 : Under u.x, u2.x.cell? ⟨g', k * 4 + 1, none⟩ = some (.int .i64 lb[k].v.k) := fun u2 => (u2.h.cell l2').trans (r1 u)
            have s2 : ∀ u2 : Under u.x, u2.x.cell? ⟨g', k * 4 + 2, none⟩ = some (.int .i64 lb[k].v.n) := fun u2 => (u2.h.cell l2').trans (r2 u)
            have s3 : ∀ u2 : Under u.x, u2.x.cell? ⟨g', k * 4 + 3, none⟩ = some (.string lb[k].v.t) := fun u2 => (u2.h.cell l2').trans (r3 u)
            have hnu2 : Nonempty (Under u.x) := ⟨⟨u.x, Below.refl _ _⟩⟩
            have hb2 : Below w2.heap.size w2 u.x := hbel.trans (u.h.mono hbel.size)
            have hb3 : Below w.heap.size w u.x := hbw2.trans (u.h.mono hbw2.size)
            go_wp2_with fail
            refine wp_region_under (by kernel_rfl) (by kernel_rfl) ?_
            repeat (go_big_quiet_step ((go_at_call 166; exact calls_under _ (HC.out _))))
            refine wpQuiet_nil ?_
            rintro _ ⟨u2, rfl⟩
            go_wp2_with fail
            go_ret
            exact ⟨by rw [HS2.out, if_neg hO0]; rfl, hb3.trans (u2.h.mono hb3.size)⟩
        · have hnb := toList_ne hnm
          have hcf : cF (ordV d) la[k] lb[k] = cB la[k].name lb[k].name := by unfold cF; rw [if_neg (fun h => hnm ((cB_zero _ _).mp h))]
          have hst2 := HS.out
          rw [hcf, if_neg (fun h => hnm ((cB_zero _ _).mp h)), cB_ne _ _ hnm] at hst2
          have hgl := leB_not la[k].name lb[k].name
          rw [hnb, Bool.or_false] at hgl
          clear hcf HS hnm
          cases hg : ltB lb[k].name la[k].name
          · rw [hg] at hst2 hgl
            have hR1 : R = -1 := by simpa using hst2
            have hgl2 : Op.bytesLess la[k].name.toList lb[k].name.toList = true := by simpa using hgl
            clear hst2 hgl hg
            go_wp2_with fail
            refine wp_region_under (by kernel_rfl) (by kernel_rfl) ?_
            repeat (go_big_quiet_step (fail))
            refine wpQuiet_nil ?_
            rintro _ ⟨u, rfl⟩
            have l1' : g < u.x.heap.size := Nat.lt_of_lt_of_le l1 u.h.size
            have l2' : g' < u.x.heap.size := Nat.lt_of_lt_of_le l2 u.h.size
            have p0 : ∀ u2 : Under u.x, u2.x.cell? ⟨g, k * 4, none⟩ = some (.string la[k].name) := fun u2 => (u2.h.cell l1').trans (q0 u)
            have p1 : ∀ u2 : Under u.x, u2.x.cell? ⟨g, k * 4 + 1, none⟩ = some (.int .i64 la[k].v.k) := fun u2 => (u2.h.cell l1').trans (q1 u)
            have p2 : ∀ u2 : Under u.x, u2.x.cell? ⟨g, k * 4 + 2, none⟩ = some (.int .i64 la[k].v.n) := fun u2 => (u2.h.cell l1').trans (q2 u)
            have p3 : ∀ u2 : Under u.x, u2.x.cell? ⟨g, k * 4 + 3, none⟩ = some (.string la[k].v.t) := fun u2 => (u2.h.cell l1').trans (q3 u)
            have s0 : ∀ u2 : Under u.x, u2.x.cell? ⟨g', k * 4, none⟩ = some (.string lb[k].name) := fun u2 => (u2.h.cell l2').trans (r0 u)
            have s1 : ∀ u2 : Under u.x, u2.x.cell? ⟨g', k * 4 + 1, none⟩ = some (.int .i64 lb[k].v.k) := fun u2 => (u2.h.cell l2').trans (r1 u)
            have s2 : ∀ u2 : Under u.x, u2.x.cell? ⟨g', k * 4 + 2, none⟩ = some (.int .i64 lb[k].v.n) := fun u2 => (u2.h.cell l2').trans (r2 u)
            have s3 : ∀ u2 : Under u.x, u2.x.cell? ⟨g', k * 4 + 3, none⟩ = some (.string lb[k].v.t) := fun u2 => (u2.h.cell l2').trans (r3 u)
            have hnu2 : Nonempty (Under u.x) := ⟨⟨u.x, Below.refl _ _⟩⟩
            have hb2 : Below w2.heap.size w2 u.x := hbel.trans (u.h.mono hbel.size)
            have hb3 : Below w.heap.size w u.x := hbw2.trans (u.h.mono hbw2.size)
            have hbit : ∀ u2 : Under u.x, Calls Tryz.prog 180 #[.bool false] u2.x fun e w' => e = .returned (.int .i64 0) ∧ w' = u2.x := fun u2 => l01Bit_any false _
            have HBit : Hid _ := hbit
            clear hbit
            go_wp2_with fail
            refine wp_region_under (by kernel_rfl) (by kernel_rfl) ?_
            repeat (go_big_quiet_step ((go_at_call 180; exact calls_under_same _ (HBit.out _))))
            refine wpQuiet_nil ?_
            rintro _ ⟨u2, rfl⟩
            go_wp2_with fail
            go_ret
            exact ⟨by rw [hR1]; rfl, hb3.trans (u2.h.mono hb3.size)⟩
          · rw [hg] at hst2 hgl
            have hR1 : R = 1 := by simpa using hst2
            have hgl2 : Op.bytesLess la[k].name.toList lb[k].name.toList = false := by simpa using hgl
            clear hst2 hgl hg
            go_wp2_with fail
            refine wp_region_under (by kernel_rfl) (by kernel_rfl) ?_
            repeat (go_big_quiet_step (fail))
            refine wpQuiet_nil ?_
            rintro _ ⟨u, rfl⟩
            have l1' : g < u.x.heap.size := Nat.lt_of_lt_of_le l1 u.h.size
            have l2' : g' < u.x.heap.size := Nat.lt_of_lt_of_le l2 u.h.size
            have p0 : ∀ u2 : Under u.x, u2.x.cell? ⟨g, k * 4, none⟩ = some (.string la[k].name) := fun u2 => (u2.h.cell l1').trans (q0 u)
            have p1 : ∀ u2 : Under u.x, u2.x.cell? ⟨g, k * 4 + 1, none⟩ = some (.int .i64 la[k].v.k) := fun u2 => (u2.h.cell l1').trans (q1 u)
            have p2 : ∀ u2 : Under u.x, u2.x.cell? ⟨g, k * 4 + 2, none⟩ = some (.int .i64 la[k].v.n) := fun u2 => (u2.h.cell l1').trans (q2 u)
            have p3 : ∀ u2 : Under u.x, u2.x.cell? ⟨g, k * 4 + 3, none⟩ = some (.string la[k].v.t) := fun u2 => (u2.h.cell l1').trans (q3 u)
            have s0 : ∀ u2 : Under u.x, u2.x.cell? ⟨g', k * 4, none⟩ = some (.string lb[k].name) := fun u2 => (u2.h.cell l2').trans (r0 u)
            have s1 : ∀ u2 : Under u.x, u2.x.cell? ⟨g', k * 4 + 1, none⟩ = some (.int .i64 lb[k].v.k) := fun u2 => (u2.h.cell l2').trans (r1 u)
            have s2 : ∀ u2 : Under u.x, u2.x.cell? ⟨g', k * 4 + 2, none⟩ = some (.int .i64 lb[k].v.n) := fun u2 => (u2.h.cell l2').trans (r2 u)
            have s3 : ∀ u2 : Under u.x, u2.x.cell? ⟨g', k * 4 + 3, none⟩ = some (.string lb[k].v.t) := fun u2 => (u2.h.cell l2').trans (r3 u)
            have hnu2 : Nonempty (Under u.x) := ⟨⟨u.x, Below.refl _ _⟩⟩
            have hb2 : Below w2.heap.size w2 u.x := hbel.trans (u.h.mono hbel.size)
            have hb3 : Below w.heap.size w u.x := hbw2.trans (u.h.mono hbw2.size)
            have hbit : ∀ u2 : Under u.x, Calls Tryz.prog 180 #[.bool true] u2.x fun e w' => e = .returned (.int .i64 1) ∧ w' = u2.x := fun u2 => l01Bit_any true _
            have HBit : Hid _ := hbit
            clear hbit
            go_wp2_with fail
            refine wp_region_under (by kernel_rfl) (by kernel_rfl) ?_
            repeat (go_big_quiet_step ((go_at_call 180; exact calls_under_same _ (HBit.out _))))
            refine wpQuiet_nil ?_
            rintro _ ⟨u2, rfl⟩
            go_wp2_with fail
            go_ret
            exact ⟨by rw [hR1]; rfl, hb3.trans (u2.h.mono hb3.size)⟩
      · have hkl : ¬ (k : Int) < (lb.length : Int) := by omega
        have hR1 : R = 1 := by rw [HT.out]; exact lexG_end2 _ la lb k hlt (by omega)
        have hgt : (lb.length : Int) < (la.length : Int) := by omega
        go_wp2_with (go_at_call 180; refine (l01Bit_any _ _).mono ?_; rintro e w3 ⟨rfl, rfl⟩)
        go_ret
        exact ⟨by rw [hR1]; simp, hbw2⟩
    · have hR1 := lexG_end1 (cF (ordV d)) la lb k (by omega)
      rw [← HT.out] at hR1
      by_cases h2 : k < lb.length
      · rw [if_pos h2] at hR1
        have hgt : ¬ (lb.length : Int) < (la.length : Int) := by omega
        go_wp2_with (go_at_call 180; refine (l01Bit_any _ _).mono ?_; rintro e w3 ⟨rfl, rfl⟩)
        go_ret
        exact ⟨by rw [hR1]; simp, hbw2⟩
      · rw [if_neg h2] at hR1; exact absurd hR1 HZ.out

theorem plain_t {d : Nat} {v : Val} (hf : fits d v = true) (h3 : v.k ≠ 3) (h4 : v.k ≠ 4) (h5 : v.k ≠ 5) : v.t = em := by
  rw [fits_base d v h4 h5] at hf
  unfold base at hf
  split at hf
  · rw [decide_eq_true_eq] at hf; exact empty_of _ hf.2
  · split at hf
    · rw [decide_eq_true_eq] at hf; exact empty_of _ hf.2.2
    · split at hf
      · rw [decide_eq_true_eq] at hf; exact empty_of _ hf.2.2
      · first | cases hf | (rw [if_neg h3] at hf; cases hf)
theorem l01Order_at : ∀ d : Nat, l01OrderAt d
  | d => by
    intro a b w hs hs' ha hb
    by_cases he : a = b
    · subst he; rw [ordV_refl]; exact l01Order_same a.k a.n a.t w
    · by_cases hk : a.k = b.k
      · by_cases hn : a.n = b.n
        · have ht : a.t ≠ b.t := fun e => he (val_ext hk hn e)
          by_cases h4 : a.k = 4
          · obtain ⟨e, la, rfl, ia, _, _, alla⟩ := fits_items h4 ha
            obtain ⟨e2, lb, hee, ib, _, _, allb⟩ := fits_items (hk ▸ h4) hb
            have : e2 = e := by omega
            subst this
            rw [ordV_list e2 a b la lb hk hn h4 ia ib, ← hk, ← hn, h4]
            exact l01Order_list e2 (l01Order_at e2) a.n a.t b.t la lb w hs hs' ht ia ib alla allb
          · by_cases h5 : a.k = 5
            · obtain ⟨e, la, rfl, ia, _, _, _, alla⟩ := fits_fields h5 ha
              obtain ⟨e2, lb, hee, ib, _, _, _, allb⟩ := fits_fields (hk ▸ h5) hb
              have : e2 = e := by omega
              subst this
              rw [ordV_doc e2 a b la lb hk hn h5 ia ib, ← hk, ← hn, h5]
              exact l01Order_doc e2 (l01Order_at e2) a.n a.t b.t la lb w hs hs' ht ia ib alla allb
            · rw [ordV_t d a b hk hn h4 h5]
              by_cases h3 : a.k = 3
              · rw [← hk, ← hn, h3]; exact l01Order_text a.n a.t b.t w ht
              · exact absurd ((plain_t ha h3 h4 h5).trans (plain_t hb (hk ▸ h3) (hk ▸ h4) (hk ▸ h5)).symm) ht
        · rw [ordV_n d a b hk hn, ← hk]; exact l01Order_n a.k a.n b.n a.t b.t w hn
      · rw [ordV_k d a b hk]; exact l01Order_k a.k a.n b.k b.n a.t b.t w hk

end Go.Proofs.YtcggkeleaepebaaGreatDoor
