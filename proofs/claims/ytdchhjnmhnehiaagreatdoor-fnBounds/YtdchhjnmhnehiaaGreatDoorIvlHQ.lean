/- What an interval has: the program's and the specification's answer, for every interval and text. -/
import Derived.Test.YtdchhjnmhnehiaaGreatDoorLawVal
import Derived.Test.YtdchhjnmhnehiaaGreatDoorFits
import Derived.Test.YtdchhjnmhnehiaaGreatDoorKeyMQ
import Derived.Lib.ConvBytes
import Derived.Laws.AppendOwn
import Derived.Test.YtdchhjnmhnehiaaGreatDoorOrdSQ
import Derived.Test.YtdchhjnmhnehiaaGreatDoorOwnQ
import Derived.Lib.MinMaxS
import Derived.Deep.DeepCutAuto
import Derived.Deep.RegionHeld3
import Derived.Test.YtdchhjnmhnehiaaGreatDoorKeySQ
import Derived.Test.YtdchhjnmhnehiaaGreatDoorRowV
namespace Go.Proofs.YtdchhjnmhnehiaaGreatDoor
open Go.RowKit
set_option linter.unusedVariables false

/-- An interval of texts. -/
structure Ivl where
  lo : ByteArray
  hi : ByteArray
  op : Bool
def hasI (i : Ivl) (key : ByteArray) : Bool := (Op.bytesLess i.lo.toList key.toList || i.lo.toList == key.toList) && (i.op || Op.bytesLess key.toList i.hi.toList)
def hasP (i : Ivl) (key : ByteArray) : Bool := decide (key.size ≤ 65536) && hasI i key

set_option maxRecDepth 4000 in
set_option maxHeartbeats 1000000 in
theorem implHas_any (lo hi : ByteArray) (op : Bool) (key : ByteArray) (w : World) (hk : key.size ≤ 1048576) :
    Calls Tryz.prog 12 #[.agg #[.string lo, .string hi, .bool op], .string key] w fun e w' => e = .returned (.bool (hasP ⟨lo, hi, op⟩ key)) ∧ Below w.heap.size w w' := by
  unfold hasP
  by_cases h : key.size ≤ 65536
  · rw [decide_eq_true h, Bool.true_and]
    have h' : (key.size : Int) ≤ 65536 := by omega
    unfold hasI
    simp only
    cases hL : Op.bytesLess lo.toList key.toList <;> cases hE : (lo.toList == key.toList) <;> cases op <;> cases hH : Op.bytesLess key.toList hi.toList
    all_goals
      go_enter Tryz.func12, Tryz.ntmps12
      go_wp2_with fail
      go_ret
      exact ⟨rfl, by (repeat (first | (with_reducible exact Below.refl _ _) | (with_reducible assumption) | (with_reducible apply below_drewN) | (with_reducible apply Below.drew) | ((with_reducible refine Below.setCell ?_ ?_ _); rotate_left; focus (first | (simp; done) | (simp; omega) | omega)) | ((with_reducible refine Below.alloc ?_ ?_ _); rotate_left; focus (first | (simp; done) | (simp; omega) | omega))))⟩
  · rw [decide_eq_false h, Bool.false_and]
    have h' : ¬ (key.size : Int) ≤ 65536 := by omega
    go_enter Tryz.func12, Tryz.ntmps12
    go_wp2_with fail
    go_ret
    exact ⟨rfl, by (repeat (first | (with_reducible exact Below.refl _ _) | (with_reducible assumption) | (with_reducible apply below_drewN) | (with_reducible apply Below.drew) | ((with_reducible refine Below.setCell ?_ ?_ _); rotate_left; focus (first | (simp; done) | (simp; omega) | omega)) | ((with_reducible refine Below.alloc ?_ ?_ _); rotate_left; focus (first | (simp; done) | (simp; omega) | omega))))⟩

end Go.Proofs.YtdchhjnmhnehiaaGreatDoor

/- What begins with a text, said plainly; and the row that a text's bytes are copied into. -/
namespace Go.Proofs.YtdchhjnmhnehiaaGreatDoor
open Go.RowKit
set_option linter.unusedVariables false

/-- The least text behind all that begin with the first n bytes of a text, and whether there is one. -/
def behN (l : List UInt8) : Nat → List UInt8 × Bool
  | 0 => ([], false)
  | n + 1 => if l.getD n 0 < 255 then (l.take n ++ [l.getD n 0 + 1], true) else behN l n
/-- All that begins with a text. -/
def beginI (l : List UInt8) : Ivl := ⟨mkB l, mkB (behN l l.length).1, !(behN l l.length).2⟩
theorem getD_byte (t : ByteArray) (m : Nat) (h : m < t.size) : t.data.toList.getD m 0 = t[m] := by
  have h2 : m < t.data.toList.length := by rw [toList_length]; exact h
  rw [List.getD_eq_getElem?_getD, List.getElem?_eq_getElem h2, get_data t m h h2]; rfl
theorem behN_low (t : ByteArray) (m : Nat) (h : m < t.size) (hl : t[m] < 255) : behN t.data.toList (m + 1) = (t.data.toList.take m ++ [t[m] + 1], true) := by
  rw [behN, getD_byte t m h, if_pos hl]
theorem behN_high (t : ByteArray) (m : Nat) (h : m < t.size) (hl : ¬ t[m] < 255) : behN t.data.toList (m + 1) = behN t.data.toList m := by
  rw [behN, getD_byte t m h, if_neg hl]
theorem succ_byte (c : UInt8) (h : c < 255) : (((c + 1 : UInt8).toNat : Nat) : Int) = (c.toNat : Int) + 1 := by
  have h1 : c.toNat < 255 := by rw [UInt8.lt_iff_toNat_lt] at h; exact h
  rw [UInt8.toNat_add]
  show (((c.toNat + 1) % 256 : Nat) : Int) = _
  omega
theorem ext_take (t : ByteArray) (m : Nat) : t.extract 0 m = mkB (t.data.toList.take m) := by
  apply ba_ext
  rw [mkB_data]
  simp
theorem txt_succ (c : UInt8) (h : c < 255) : txt [(c.toNat : Int) + 1] = mkB [c + 1] := by
  have e : UInt8.ofNat ((c.toNat : Int) + 1).toNat = c + 1 := by rw [← succ_byte c h, Int.toNat_natCast, UInt8.ofNat_toNat]
  show mkB [UInt8.ofNat ((c.toNat : Int) + 1).toNat] = _
  rw [e]
theorem low_nat (c : UInt8) : c < 255 ↔ (c.toNat : Int) < 255 := by
  rw [UInt8.lt_iff_toNat_lt]
  show c.toNat < 255 ↔ _
  omega
theorem convK (W : World) (g : Nat) (z : Int) (h : W.cell? ⟨g, 0, none⟩ = some (.int .u8 z)) : (convert 22 9 (.slice (some ⟨g, 0, none⟩) 1 1)).run Tryz.prog W = .ok (.string (txt [z])) W :=
  run_convert_bytes_arg _ 22 5 Tryz.underlying22 Tryz.underlying5 g 0 1 1 [z] rfl (fun i hi => by
    have : i = 0 := by omega
    subst this
    simpa using h) 9 Tryz.underlying9

/-- The row of a text's bytes that []byte(t) makes. -/
structure RowOf (W V : World) (t : ByteArray) : Prop where
  bel : Below W.heap.size W V
  size : V.heap.size = W.heap.size + 1
  cells : ∀ j (h : j < t.size), V.cell? ⟨W.heap.size, j, none⟩ = some (.int .u8 (t[j].toNat : Nat))
  free : ∀ j, j < t.size → V.frozen? ⟨W.heap.size, j, none⟩ = false
theorem rowOf (W : World) (t : ByteArray) : RowOf W (Lib.bytesWorld W 5 t) t := by
  refine ⟨⟨?_, ?_, ?_, ?_, fun k hk => Lib.bytesWorld_at_old W _ t k hk⟩, Lib.bytesWorld_size W _ t, fun j hj => ?_, fun j hj => ?_⟩
  · unfold Lib.bytesWorld World.freeze; rw [if_neg (by decide)]; rfl
  · unfold Lib.bytesWorld World.freeze; rw [if_neg (by decide)]; rfl
  · unfold Lib.bytesWorld World.freeze; rw [if_neg (by decide)]; rfl
  · rw [Lib.bytesWorld_size]; omega
  · rw [Lib.bytesWorld_cell W _ t j hj, getD_byte t j hj]
  · have h1 : ¬ (Lib.bytesCells W 5 t).size ≤ j := by
      unfold Lib.bytesCells
      simp; omega
    simp [World.frozen?, Lib.bytesWorld_at_new]
    intro h; exact absurd h h1
theorem conv_row (W : World) (t : ByteArray) : (convert 9 22 (.string t)).run Tryz.prog W = .ok (.slice (some ⟨W.heap.size, 0, none⟩) t.size (grownCap W t.size 0 5)) (Lib.bytesWorld W 5 t) :=
  Lib.run_convert_string_bytes W 9 22 5 t Tryz.underlying9 Tryz.underlying22 Tryz.underlying5

end Go.Proofs.YtdchhjnmhnehiaaGreatDoor

/- What two intervals have in common: the program's and the specification's answer, for every two intervals. -/
namespace Go.Proofs.YtdchhjnmhnehiaaGreatDoor
open Go.RowKit
set_option linter.unusedVariables false

/-- The lesser end of two intervals. -/
def hiM (a b : Ivl) : ByteArray := if a.op then (if b.op then em else b.hi) else (if b.op then a.hi else Lib.minS a.hi b.hi)
def meetI (a b : Ivl) : Ivl := ⟨Lib.maxS a.lo b.lo, hiM a b, a.op && b.op⟩

set_option maxRecDepth 4000 in
set_option maxHeartbeats 2000000 in
theorem l04Meet_any (a b : Ivl) (w : World) :
    Calls Tryz.prog 111 #[.agg #[.string a.lo, .string a.hi, .bool a.op], .agg #[.string b.lo, .string b.hi, .bool b.op]] w fun e w' => e = .returned (.agg #[.string (meetI a b).lo, .string (meetI a b).hi, .bool (meetI a b).op]) ∧ Below w.heap.size w w' := by
  obtain ⟨lo, hi, op⟩ := a
  obtain ⟨lo', hi', op'⟩ := b
  unfold meetI hiM
  simp only
  have hmx := fun (W : World) ts t => Lib.run_max_strs (P := Tryz.prog) W ts t lo lo'
  have hmn := fun (W : World) ts t => Lib.run_min_strs (P := Tryz.prog) W ts t hi hi'
  obtain ⟨M, hM⟩ : ∃ M, M = Lib.maxS lo lo' := ⟨_, rfl⟩
  obtain ⟨N, hN⟩ : ∃ N, N = Lib.minS hi hi' := ⟨_, rfl⟩
  rw [← hM] at hmx ⊢
  rw [← hN] at hmn ⊢
  clear hM hN
  cases op <;> cases op'
  · show Calls _ _ _ _ fun e w' => e = .returned (.agg #[.string M, .string N, .bool false]) ∧ Below w.heap.size w w'
    go_enter Tryz.func111, Tryz.ntmps111
    go_wp2_with fail
    refine bodyPost_ret (v := .agg #[.string M, .string N, .bool false]) (by simp [results, Tryz.results111, go_sem]) rfl ⟨rfl, ?_⟩
    (repeat (first | (with_reducible exact Below.refl _ _) | (with_reducible assumption) | (with_reducible apply below_drewN) | (with_reducible apply Below.drew) | ((with_reducible refine Below.setCell ?_ ?_ _); rotate_left; focus (first | (simp; done) | (simp; omega) | omega)) | ((with_reducible refine Below.alloc ?_ ?_ _); rotate_left; focus (first | (simp; done) | (simp; omega) | omega))))
  · show Calls _ _ _ _ fun e w' => e = .returned (.agg #[.string M, .string hi, .bool false]) ∧ Below w.heap.size w w'
    go_enter Tryz.func111, Tryz.ntmps111
    go_wp2_with fail
    refine bodyPost_ret (v := .agg #[.string M, .string hi, .bool false]) (by simp [results, Tryz.results111, go_sem]) rfl ⟨rfl, ?_⟩
    (repeat (first | (with_reducible exact Below.refl _ _) | (with_reducible assumption) | (with_reducible apply below_drewN) | (with_reducible apply Below.drew) | ((with_reducible refine Below.setCell ?_ ?_ _); rotate_left; focus (first | (simp; done) | (simp; omega) | omega)) | ((with_reducible refine Below.alloc ?_ ?_ _); rotate_left; focus (first | (simp; done) | (simp; omega) | omega))))
  · show Calls _ _ _ _ fun e w' => e = .returned (.agg #[.string M, .string hi', .bool false]) ∧ Below w.heap.size w w'
    go_enter Tryz.func111, Tryz.ntmps111
    go_wp2_with fail
    refine bodyPost_ret (v := .agg #[.string M, .string hi', .bool false]) (by simp [results, Tryz.results111, go_sem]) rfl ⟨rfl, ?_⟩
    (repeat (first | (with_reducible exact Below.refl _ _) | (with_reducible assumption) | (with_reducible apply below_drewN) | (with_reducible apply Below.drew) | ((with_reducible refine Below.setCell ?_ ?_ _); rotate_left; focus (first | (simp; done) | (simp; omega) | omega)) | ((with_reducible refine Below.alloc ?_ ?_ _); rotate_left; focus (first | (simp; done) | (simp; omega) | omega))))
  · show Calls _ _ _ _ fun e w' => e = .returned (.agg #[.string M, .string em, .bool true]) ∧ Below w.heap.size w w'
    go_enter Tryz.func111, Tryz.ntmps111
    go_wp2_with fail
    refine bodyPost_ret (v := .agg #[.string M, .string em, .bool true]) (by simp [results, Tryz.results111, go_sem]) rfl ⟨rfl, ?_⟩
    (repeat (first | (with_reducible exact Below.refl _ _) | (with_reducible assumption) | (with_reducible apply below_drewN) | (with_reducible apply Below.drew) | ((with_reducible refine Below.setCell ?_ ?_ _); rotate_left; focus (first | (simp; done) | (simp; omega) | omega)) | ((with_reducible refine Below.alloc ?_ ?_ _); rotate_left; focus (first | (simp; done) | (simp; omega) | omega))))

/-- Three cells in each of the first two new blocks, an empty interval that may be written in the third. -/
structure OwnI (w W : World) (a b c a' b' c' : Value) : Prop where
  bel : Below w.heap.size w W
  lt : w.heap.size + 1 + 1 < W.heap.size
  c0 : W.cell? ⟨w.heap.size, 0, none⟩ = some a
  c1 : W.cell? ⟨w.heap.size, 1, none⟩ = some b
  c2 : W.cell? ⟨w.heap.size, 2, none⟩ = some c
  e0 : W.cell? ⟨w.heap.size + 1, 0, none⟩ = some a'
  e1 : W.cell? ⟨w.heap.size + 1, 1, none⟩ = some b'
  e2 : W.cell? ⟨w.heap.size + 1, 2, none⟩ = some c'
  d0 : W.cell? ⟨w.heap.size + 1 + 1, 0, none⟩ = some (.string em)
  d1 : W.cell? ⟨w.heap.size + 1 + 1, 1, none⟩ = some (.string em)
  d2 : W.cell? ⟨w.heap.size + 1 + 1, 2, none⟩ = some (.bool false)
  z0 : W.frozen? ⟨w.heap.size + 1 + 1, 0, none⟩ = false
  z1 : W.frozen? ⟨w.heap.size + 1 + 1, 1, none⟩ = false
  z2 : W.frozen? ⟨w.heap.size + 1 + 1, 2, none⟩ = false
theorem OwnI.start (w : World) (a b c a' b' c' : Value) (T : TypeId) : OwnI w (((w.alloc (.cells #[a, b, c] T)).alloc (.cells #[a', b', c'] T)).alloc (.cells #[.string em, .string em, .bool false] T)) a b c a' b' c' :=
  ⟨(((Below.refl _ _).alloc (Nat.le_refl _) _).alloc (by simp) _).alloc (by simp; omega) _, by simp, by simp [go_sem], by simp [go_sem], by simp [go_sem], by simp [go_sem], by simp [go_sem], by simp [go_sem], by simp [go_sem], by simp [go_sem], by simp [go_sem], by simp [go_sem], by simp [go_sem], by simp [go_sem]⟩
theorem OwnI.step {w W W' : World} {a b c a' b' c' : Value} (h : OwnI w W a b c a' b' c') (hb : Below W.heap.size W W') : OwnI w W' a b c a' b' c' :=
  have hl1 : w.heap.size + 1 < W.heap.size := Nat.lt_of_succ_lt h.lt
  have hl : w.heap.size < W.heap.size := Nat.lt_of_succ_lt hl1
  ⟨h.bel.trans (hb.mono h.bel.size), Nat.lt_of_lt_of_le h.lt hb.size, (hb.cell hl).trans h.c0, (hb.cell hl).trans h.c1, (hb.cell hl).trans h.c2, (hb.cell hl1).trans h.e0, (hb.cell hl1).trans h.e1, (hb.cell hl1).trans h.e2, (hb.cell h.lt).trans h.d0, (hb.cell h.lt).trans h.d1, (hb.cell h.lt).trans h.d2, (hb.frozen h.lt).trans h.z0, (hb.frozen h.lt).trans h.z1, (hb.frozen h.lt).trans h.z2⟩
theorem keepI {w W W' : World} {a b c a' b' c' : Value} (h : OwnI w W a b c a' b' c') (hb : Below (w.heap.size + 1 + 1) W W') : W'.cell? ⟨w.heap.size, 0, none⟩ = some a ∧ W'.cell? ⟨w.heap.size, 1, none⟩ = some b ∧ W'.cell? ⟨w.heap.size, 2, none⟩ = some c ∧ W'.cell? ⟨w.heap.size + 1, 0, none⟩ = some a' ∧ W'.cell? ⟨w.heap.size + 1, 1, none⟩ = some b' ∧ W'.cell? ⟨w.heap.size + 1, 2, none⟩ = some c' :=
  have hl : w.heap.size < w.heap.size + 1 + 1 := by omega
  have hl1 : w.heap.size + 1 < w.heap.size + 1 + 1 := by omega
  ⟨(hb.cell hl).trans h.c0, (hb.cell hl).trans h.c1, (hb.cell hl).trans h.c2, (hb.cell hl1).trans h.e0, (hb.cell hl1).trans h.e1, (hb.cell hl1).trans h.e2⟩

end Go.Proofs.YtdchhjnmhnehiaaGreatDoor

/- What begins with a text: the program's answer. -/
namespace Go.Proofs.YtdchhjnmhnehiaaGreatDoor
open Go.RowKit
set_option linter.unusedVariables false

theorem back_row (W : World) (g cap m : Nat) (t : ByteArray) (hm : m < t.size) (hl : t[m] < 255) (hc : ∀ j (h : j < m), W.cell? ⟨g, j, none⟩ = some (.int .u8 (t[j].toNat : Nat))) (hv : W.cell? ⟨g, m, none⟩ = some (.int .u8 ((t[m].toNat : Int) + 1))) :
    (convert 22 9 (.slice (some ⟨g, 0, none⟩) (m + 1) cap)).run Tryz.prog W = .ok (.string (mkB (t.data.toList.take m ++ [t[m] + 1]))) W := by
  have hlen : (t.data.toList.take m ++ [t[m] + 1]).length = m + 1 := by
    rw [List.length_append, List.length_take, toList_length]; simp only [List.length_cons, List.length_nil]; omega
  have := run_convert_bytes_back (P := Tryz.prog) W 22 9 5 ⟨g, 0, none⟩ cap (t.data.toList.take m ++ [t[m] + 1]) Tryz.underlying22 Tryz.underlying5 Tryz.underlying9 (fun j hj => by
    rw [hlen] at hj
    have ea : (⟨g, 0, none⟩ : Addr).add j = ⟨g, j, none⟩ := by
      by_cases h0 : j = 0
      · subst h0; simp [Addr.add]
      · simp [Addr.add, h0]
    rw [ea]
    by_cases hjm : j < m
    · rw [hc j hjm]
      congr 2
      rw [List.getElem_append_left (by rw [List.length_take, toList_length]; omega), List.getElem_take, get_data t j (by omega)]
    · obtain rfl : j = m := by omega
      rw [hv]
      congr 2
      rw [List.getElem_append_right (by rw [List.length_take, toList_length]; omega), ← succ_byte _ hl]
      simp)
  rw [hlen] at this
  exact this

set_option maxRecDepth 4000 in
set_option maxHeartbeats 2000000 in
theorem beginning_any (t : ByteArray) (w : World) (ht : t.size ≤ 100000) :
    Calls Tryz.prog 105 #[.string t] w fun e w' => e = .returned (.agg #[.string t, .string (mkB (behN t.data.toList t.size).1), .bool (!(behN t.data.toList t.size).2)]) ∧ Below w.heap.size w w' := by
  obtain ⟨P, hP⟩ : ∃ P, P = behN t.data.toList t.size := ⟨_, rfl⟩
  rw [← hP]
  have HP : Hid (_ = _) := hP
  have Y0 := Res3.start w (.string em) (.string em) (.bool false) 34
  have hcv := conv_row (w.alloc (.cells #[.string em, .string em, .bool false] 34)) t
  have hrow := rowOf (w.alloc (.cells #[.string em, .string em, .bool false] 34)) t
  have hcap := grownCap_ge (w.alloc (.cells #[.string em, .string em, .bool false] 34)) t.size 0 5
  obtain ⟨cap, hcp⟩ : ∃ cap, cap = grownCap (w.alloc (.cells #[.string em, .string em, .bool false] 34)) t.size 0 5 := ⟨_, rfl⟩
  obtain ⟨V, hV⟩ : ∃ V, V = Lib.bytesWorld (w.alloc (.cells #[.string em, .string em, .bool false] 34)) 5 t := ⟨_, rfl⟩
  rw [← hcp] at hcv hcap
  rw [← hV] at hcv hrow
  have Y := Y0.step hrow.bel
  have hcells := hrow.cells
  have hfree := hrow.free
  have hsz := hrow.size
  have hlt := Y.lt
  rw [heap_size_alloc] at hcv hcells hfree hsz
  have HC : Hid _ := hcells
  have HF : Hid _ := hfree
  clear hP hcp hV Y0 hrow hcells hfree
  go_enter Tryz.func105, Tryz.ntmps105
  go_wp2_with fail
  go_loopw [4] (fun i wr => ∃ n : Nat, n ≤ t.size ∧ i = .int .i64 ((n : Int) - 1) ∧ P = behN t.data.toList n ∧ wr = V) (fun i _ => (intOf i + 1).toNat)
  case atStart => exact ⟨t.size, Nat.le_refl _, rfl, HP.out, rfl⟩
  case round =>
    obtain ⟨n, hn, rfl, hb, rfl⟩ := hrel
    have c0 := Y.c0
    have c1 := Y.c1
    have c2 := Y.c2
    have z0 := Y.z0
    have z1 := Y.z1
    have z2 := Y.z2
    have hbw := Y.bel
    cases n with
    | zero =>
      obtain rfl : P = ([], false) := hb
      have hneg : ¬ (0 : Int) ≤ ((0 : Nat) : Int) - 1 := by omega
      clear HP HC HF
      go_wp2_with fail
      refine bodyPost_ret (v := .agg #[.string t, .string em, .bool true]) (by simp [results, Tryz.results105, go_sem, *]) rfl ⟨rfl, ?_⟩
      (repeat (first | (with_reducible exact Below.refl _ _) | (with_reducible assumption) | (with_reducible apply below_drewN) | (with_reducible apply Below.drew) | ((with_reducible refine Below.setCell ?_ ?_ _); rotate_left; focus (first | (simp; done) | (simp; omega) | omega)) | ((with_reducible refine Below.alloc ?_ ?_ _); rotate_left; focus (first | (simp; done) | (simp; omega) | omega))))
    | succ m =>
      have hm : m < t.size := hn
      have hc : ((m + 1 : Nat) : Int) - 1 = (m : Int) := by omega
      rw [hc]
      have hpos : (0 : Int) ≤ (m : Int) := by omega
      have hml : (m : Int) < (t.size : Int) := by omega
      have hmc : (m : Int) + 1 ≤ (cap : Int) := by omega
      have x0 := HC.out m hm
      have f0 := HF.out m hm
      clear hc
      by_cases hlow : t[m] < 255
      · have hlow' := (low_nat t[m]).mp hlow
        rw [behN_low t m hm hlow] at hb
        have hw3 : IntKind.u8.wrap ((t[m].toNat : Int) + 1) = (t[m].toNat : Int) + 1 := by simp only [IntKind.wrap, IntKind.bits, IntKind.signed]; simp; omega
        have hback := back_row (wr.setCell ⟨w.heap.size + 1, m, none⟩ (.int .u8 ((t[m].toNat : Int) + 1))) (w.heap.size + 1) cap m t hm hlow (fun j hj => by
          have hne : m ≠ j := by omega
          have := HC.out j (by omega)
          rw [← this]
          apply World.cell?_setCell_other
          intro e; injection e with e1 e2; omega) (by simp [go_sem, x0])
        subst hb
        clear HP HC HF hlow
        go_wp2_with fail
        refine bodyPost_ret (v := .agg #[.string t, .string (mkB (t.data.toList.take m ++ [t[m] + 1])), .bool false]) (by simp [results, Tryz.results105, go_sem, *]) rfl ⟨rfl, ?_⟩
        (repeat (first | (with_reducible exact Below.refl _ _) | (with_reducible assumption) | (with_reducible apply below_drewN) | (with_reducible apply Below.drew) | ((with_reducible refine Below.setCell ?_ ?_ _); rotate_left; focus (first | (simp; done) | (simp; omega) | omega)) | ((with_reducible refine Below.alloc ?_ ?_ _); rotate_left; focus (first | (simp; done) | (simp; omega) | omega))))
      · have hlow' : ¬ ((t[m].toNat : Nat) : Int) < 255 := fun h => hlow ((low_nat t[m]).mpr h)
        rw [behN_high t m hm hlow] at hb
        have HB : Hid (_ = _) := hb
        clear hb HP HC HF hlow
        go_wp2_with fail
        go_roundw
        case rel => exact ⟨m, by omega, by go_num, HB.out, trivial⟩
        case measure => simp [intOf]

end Go.Proofs.YtdchhjnmhnehiaaGreatDoor

/- What begins with a text: the specification's answer. -/
namespace Go.Proofs.YtdchhjnmhnehiaaGreatDoor
open Go.RowKit
set_option linter.unusedVariables false

set_option maxRecDepth 4000 in
set_option maxHeartbeats 1000000 in
theorem l04Behind_any (t : ByteArray) (w : World) (ht : t.size ≤ 100000) :
    Calls Tryz.prog 133 #[.string t] w fun e w' => e = .returned (.tuple #[.string (mkB (behN t.data.toList t.size).1), .bool (behN t.data.toList t.size).2]) ∧ Below w.heap.size w w' := by
  obtain ⟨P, hP⟩ : ∃ P, P = behN t.data.toList t.size := ⟨_, rfl⟩
  rw [← hP]
  have HP : Hid (_ = _) := hP
  clear hP
  go_enter Tryz.func133, Tryz.ntmps133
  go_wp2_with fail
  go_loopw [4] (fun i wr => ∃ n : Nat, n ≤ t.size ∧ i = .int .i64 n ∧ P = behN t.data.toList n ∧ Below w.heap.size w wr) (fun i _ => (intOf i).toNat)
  case atStart => exact ⟨t.size, Nat.le_refl _, rfl, HP.out, Below.refl _ _⟩
  case round =>
    obtain ⟨n, hn, rfl, hb, hbel⟩ := hrel
    have hz := hbel.size
    cases n with
    | zero =>
      obtain rfl : P = ([], false) := hb
      clear HP
      go_wp2_with fail
      go_ret2
      exact ⟨rfl, hbel⟩
    | succ m =>
      have hm : m < t.size := hn
      have hc : ((m + 1 : Nat) : Int) = (m : Int) + 1 := by omega
      rw [hc]
      have hpos : (0 : Int) < (m : Int) + 1 := by omega
      have hml : (m : Int) < (t.size : Int) := by omega
      have hml2 : (m : Int) ≤ (t.size : Int) := by omega
      clear hc
      by_cases hlow : t[m] < 255
      · have hlow' := (low_nat t[m]).mp hlow
        rw [behN_low t m hm hlow] at hb
        have hw3 : IntKind.u8.wrap ((t[m].toNat : Int) + 1) = (t[m].toNat : Int) + 1 := by simp only [IntKind.wrap, IntKind.bits, IntKind.signed]; simp; omega
        have hcg : ∀ (W : World) (g : Nat), W.cell? ⟨g, 0, none⟩ = some (.int .u8 ((t[m].toNat : Int) + 1)) → _ := fun W g h => convK W g ((t[m].toNat : Int) + 1) h
        have hR : mkB (t.data.toList.take m ++ [t[m] + 1]) = t.extract 0 m ++ txt [(t[m].toNat : Int) + 1] := by rw [ext_take, txt_succ _ hlow, mkB_app]
        have hs1 : (t.extract 0 m).size = m := by simp; omega
        have hs2 : (txt [(t[m].toNat : Int) + 1]).size = 1 := txt_size _
        obtain ⟨A, hA⟩ : ∃ A, A = txt [(t[m].toNat : Int) + 1] := ⟨_, rfl⟩
        rw [← hA] at hR hs2
        simp only [← hA] at hcg
        have HR : Hid (_ = _) := hR
        subst hb
        clear hR hA HP hlow
        go_wp2_with fail
        go_region
        all_goals
          go_wp2_with fail
          go_ret2
          exact ⟨congrArg (fun s => Ending.returned (Value.tuple #[.string s, .bool true])) HR.out.symm, by (repeat (first | (with_reducible exact Below.refl _ _) | (with_reducible assumption) | (with_reducible apply below_drewN) | (with_reducible apply Below.drew) | ((with_reducible refine Below.setCell ?_ ?_ _); rotate_left; focus (first | (simp; done) | (simp; omega) | omega)) | ((with_reducible refine Below.alloc ?_ ?_ _); rotate_left; focus (first | (simp; done) | (simp; omega) | omega))))⟩
      · have hlow' : ¬ ((t[m].toNat : Nat) : Int) < 255 := fun h => hlow ((low_nat t[m]).mpr h)
        rw [behN_high t m hm hlow] at hb
        have HB : Hid (_ = _) := hb
        clear hb HP hlow
        go_wp2_with fail
        go_roundw
        case rel => exact ⟨m, by omega, by go_num, HB.out, hbel⟩
        case measure => simp [intOf]

set_option maxRecDepth 4000 in
set_option maxHeartbeats 1000000 in
theorem l04Begin_any (l : List UInt8) (w : World) (hl : l.length ≤ 100000) :
    Calls Tryz.prog 109 #[.string (mkB l)] w fun e w' => e = .returned (.agg #[.string (mkB l), .string (beginI l).hi, .bool (beginI l).op]) ∧ Below w.heap.size w w' := by
  have HC0 := fun W : World => l04Behind_any (mkB l) W (by rw [mkB_size]; exact hl)
  rw [mkB_data, mkB_size] at HC0
  unfold beginI
  simp only
  obtain ⟨⟨p1, p2⟩, hP⟩ : ∃ P, P = behN l l.length := ⟨_, rfl⟩
  rw [← hP] at HC0 ⊢
  have HC : Hid (∀ W : World, Calls _ _ _ W _) := HC0
  have Y0 := Res3.start w (.string em) (.string em) (.bool false) 34
  obtain ⟨A, hA⟩ : ∃ A, A = mkB l := ⟨_, rfl⟩
  rw [← hA] at HC ⊢
  clear HC0 hP hA
  go_enter Tryz.func109, Tryz.ntmps109
  go_wp2_with fail
  refine (HC.out _).mono ?_
  rintro e w1 ⟨rfl, hb⟩
  have Y := Y0.step hb
  have g0 := Y.c0
  have g1 := Y.c1
  have g2 := Y.c2
  have z0 := Y.z0
  have z1 := Y.z1
  have z2 := Y.z2
  have hlt := Y.lt
  have hbw := Y.bel
  clear hb Y Y0
  go_wp2_with fail
  refine bodyPost_ret (v := .agg #[.string A, .string (mkB p1), .bool (!p2)]) (by simp [results, Tryz.results109, go_sem, *]) rfl ⟨rfl, ?_⟩
  (repeat (first | (with_reducible exact Below.refl _ _) | (with_reducible assumption) | (with_reducible apply below_drewN) | (with_reducible apply Below.drew) | ((with_reducible refine Below.setCell ?_ ?_ _); rotate_left; focus (first | (simp; done) | (simp; omega) | omega)) | ((with_reducible refine Below.alloc ?_ ?_ _); rotate_left; focus (first | (simp; done) | (simp; omega) | omega))))
set_option maxHeartbeats 1000000 in
theorem l04Turned_any (l : List UInt8) (desc : Bool) (w : World) (hl : l.length ≤ 100000) :
    Calls Tryz.prog 110 #[.string (mkB l), .bool desc] w fun e w' => e = .returned (.string (mkB (dirK desc l))) ∧ Below w.heap.size w w' := by
  have hT := fun W : World => l04Turn_any (mkB l) W (by rw [mkB_size]; exact hl)
  rw [mkB_data] at hT
  have HT : Hid (∀ W : World, Calls _ _ _ W _) := hT
  clear hT
  cases desc
  · show Calls _ _ _ _ fun e w' => e = .returned (.string (mkB l)) ∧ Below w.heap.size w w'
    go_enter Tryz.func110, Tryz.ntmps110
    go_wp2_with fail
    go_ret
    exact ⟨rfl, Below.refl _ _⟩
  · show Calls _ _ _ _ fun e w' => e = .returned (.string (mkB (turnL l))) ∧ Below w.heap.size w w'
    go_enter Tryz.func110, Tryz.ntmps110
    go_wp2_with (go_at_call 99; refine (HT.out _).mono ?_; rintro e w2 ⟨rfl, hb⟩)
    go_ret
    exact ⟨rfl, hb⟩

end Go.Proofs.YtdchhjnmhnehiaaGreatDoor
