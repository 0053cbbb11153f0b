/- The key of a value, said plainly. Nothing of the program is used here. -/
import Derived.Test.YtdchhjnmhnehiaaGreatDoorOwnQ
import Derived.Test.YtdchhjnmhnehiaaGreatDoorEncS
namespace Go.Proofs.YtdchhjnmhnehiaaGreatDoor
open Go.RowKit
set_option linter.unusedVariables false

/-- Numbers as bytes. -/
def u8s (zs : List Int) : List UInt8 := zs.map fun z => UInt8.ofNat z.toNat
theorem txt_u8s (zs : List Int) : txt zs = mkB (u8s zs) := rfl
theorem u8s_len (zs : List Int) : (u8s zs).length = zs.length := by unfold u8s; simp
theorem nb_range (n : Int) (j : Nat) : 0 ≤ nb n j ∧ nb n j < 256 := by unfold nb; omega
theorem nb_cell (n : Int) (j : Nat) : (((UInt8.ofNat (nb n j).toNat).toNat : Nat) : Int) = nb n j := by
  have h := nb_range n j
  rw [UInt8.toNat_ofNat']
  omega
theorem cells_num (n : Int) (wd : Nat) : Lib.byteCells (u8s (numB n wd)) = rowE (numB n wd) := by
  unfold Lib.byteCells u8s rowE numB numK
  rw [List.map_map, List.map_map, List.map_map]
  apply List.map_congr_left
  intro j _
  simp only [Function.comp_apply]
  rw [nb_cell]
/-- A text with a byte 255 behind each byte 0. -/
def escL (t : List UInt8) : List UInt8 := t.flatMap fun c => if c = 0 then [0, 255] else [c]
def txtK (t : List UInt8) : List UInt8 := escL t ++ [0, 0]
theorem escL_len (t : List UInt8) : (escL t).length ≤ 2 * t.length := by
  unfold escL
  induction t with
  | nil => simp
  | cons c r ih =>
    rw [List.flatMap_cons, List.length_append, List.length_cons]
    split <;> simp only [List.length_cons, List.length_nil] <;> omega
theorem escL_app (a b : List UInt8) : escL (a ++ b) = escL a ++ escL b := by unfold escL; rw [List.flatMap_append]
theorem get_data (t : ByteArray) (q : Nat) (h : q < t.size) (h2 : q < t.data.toList.length) : t.data.toList[q] = t[q] := by
  rw [Array.getElem_toList]; rfl
theorem escL_zero (t : ByteArray) (q : Nat) (h : q < t.size) (h0 : t[q] = 0) : escL (t.data.toList.take (q + 1)) = escL (t.data.toList.take q) ++ [t[q]] ++ [255] := by
  have h2 : q < t.data.toList.length := by rw [toList_length]; exact h
  rw [List.take_succ_eq_append_getElem h2, escL_app, get_data t q h h2, h0, List.append_assoc]; rfl
theorem escL_other (t : ByteArray) (q : Nat) (h : q < t.size) (h0 : ¬ t[q] = 0) : escL (t.data.toList.take (q + 1)) = escL (t.data.toList.take q) ++ [t[q]] := by
  have h2 : q < t.data.toList.length := by rw [toList_length]; exact h
  rw [List.take_succ_eq_append_getElem h2, escL_app, get_data t q h h2]
  congr 1
  unfold escL
  rw [List.flatMap_cons, if_neg h0]; rfl
theorem escL_take_len (t : ByteArray) (q : Nat) : (escL (t.data.toList.take q)).length ≤ 2 * t.size := by
  have h := escL_len (t.data.toList.take q)
  rw [List.length_take, toList_length] at h
  omega
theorem txtK_len (t : List UInt8) : (txtK t).length ≤ 2 * t.length + 2 := by
  unfold txtK
  rw [List.length_append]
  have := escL_len t
  simp only [List.length_cons, List.length_nil]; omega
/-- All bytes the other way round. -/
def turnL (l : List UInt8) : List UInt8 := l.map fun c => 255 - c
theorem turn_nat (c : UInt8) : (((255 - c : UInt8).toNat : Nat) : Int) = 255 - (c.toNat : Int) := by
  have h := c.toNat_lt
  have hle : c ≤ 255 := by rw [UInt8.le_iff_toNat_le]; show c.toNat ≤ 255; omega
  rw [UInt8.toNat_sub_of_le _ _ hle]
  show ((255 - c.toNat : Nat) : Int) = _
  omega
theorem turnL_len (l : List UInt8) : (turnL l).length = l.length := by unfold turnL; simp
/-- The first byte of a key. -/
def kb (k : Int) : UInt8 := UInt8.ofNat (k + 1).toNat
/-- The key of a value that holds no other. -/
def baseK (v : Val) : List UInt8 :=
  kb v.k :: (if v.k = 1 then u8s (numB v.n 1) else if v.k = 2 then u8s (numB (v.n + 4611686018427387904) 8) else if v.k = 3 then txtK v.t.data.toList else [])
def fieldK (r : Val → List UInt8) (f : Fld) : List UInt8 := 1 :: (txtK f.name.data.toList ++ r f.v)
/-- The key of a value. -/
def keyV : Nat → Val → List UInt8
  | 0, v => baseK v
  | d + 1, v =>
    if v.k = 4 then 5 :: ((itms v).flatMap (keyV d) ++ [0])
    else if v.k = 5 then 6 :: ((flds v).flatMap (fieldK (keyV d)) ++ [0])
    else baseK v
theorem keyV_base (d : Nat) (v : Val) (h4 : v.k ≠ 4) (h5 : v.k ≠ 5) : keyV d v = baseK v := by
  cases d with
  | zero => rfl
  | succ d => rw [keyV, if_neg h4, if_neg h5]
theorem keyV_list (d : Nat) (v : Val) (h : v.k = 4) : keyV (d + 1) v = 5 :: ((itms v).flatMap (keyV d) ++ [0]) := by rw [keyV, if_pos h]
theorem keyV_doc (d : Nat) (v : Val) (h : v.k = 5) : keyV (d + 1) v = 6 :: ((flds v).flatMap (fieldK (keyV d)) ++ [0]) := by rw [keyV, if_neg (by omega), if_pos h]
theorem flatK_len {α : Type} (f : α → List UInt8) (g : α → Nat) : ∀ l : List α, (∀ u ∈ l, (f u).length ≤ 22 * g u) → (l.flatMap f).length ≤ 22 * (l.map g).sum
  | [], _ => by simp
  | x :: r, h => by
    have h1 := h x (by simp)
    have h2 := flatK_len f g r (fun u hu => h u (by simp [hu]))
    rw [List.flatMap_cons, List.length_append, List.map_cons, List.sum_cons]
    omega
theorem baseK_len (v : Val) : (baseK v).length + 1 ≤ 22 * (1 + v.t.size) := by
  have hl := toList_length v.t
  have h1 : (u8s (numB v.n 1)).length = 1 := by rw [u8s_len, numB_len]
  have h2 : (u8s (numB (v.n + 4611686018427387904) 8)).length = 8 := by rw [u8s_len, numB_len]
  have h3 := txtK_len v.t.data.toList
  unfold baseK
  rw [List.length_cons]
  split
  · omega
  · split
    · omega
    · split
      · omega
      · simp only [List.length_nil]; omega
theorem fieldK_len (r : Val → List UInt8) (f : Fld) (h : (r f.v).length + 1 ≤ 22 * (1 + f.v.t.size)) : (fieldK r f).length ≤ 22 * (2 + f.name.size + f.v.t.size) := by
  have hl := toList_length f.name
  have h3 := txtK_len f.name.data.toList
  unfold fieldK
  rw [List.length_cons, List.length_append]
  omega
theorem keyV_len : ∀ (d : Nat) (v : Val), fits d v = true → (keyV d v).length + 1 ≤ 22 * (1 + v.t.size)
  | 0, v, h => baseK_len v
  | d + 1, v, h => by
    have ih := keyV_len d
    by_cases h4 : v.k = 4
    · obtain ⟨hs, hi, hl, d', hd, hall⟩ := list_parts (d + 1) v h h4
      obtain rfl : d = d' := by omega
      rw [keyV_list d v h4]
      have h1 := flatK_len (keyV d) (fun v => 1 + v.t.size) (itms v) (fun u hu => by have := ih u (hall u hu).1; omega)
      have h2 := items_sum1 v.t.size v.t (itms v) (Nat.le_refl _) hi
      simp only [List.length_cons, List.length_append, List.length_nil]
      omega
    · by_cases h5 : v.k = 5
      · obtain ⟨hs, hi, hl, _, d', hd, hall, _⟩ := doc_parts (d + 1) v h h5
        obtain rfl : d = d' := by omega
        rw [keyV_doc d v h5]
        have h1 := flatK_len (fieldK (keyV d)) (fun f => 2 + f.name.size + f.v.t.size) (flds v) (fun f hf => fieldK_len _ f (ih f.v (hall f hf).1))
        have h2 := fields_sum1 v.t.size v.t (flds v) (Nat.le_refl _) hi
        simp only [List.length_cons, List.length_append, List.length_nil]
        omega
      · rw [keyV_base (d + 1) v h4 h5]
        exact baseK_len v
theorem list_key_len (d : Nat) (v : Val) (h : fits (d + 1) v = true) (hk : v.k = 4) (k : Nat) : (((itms v).take k).flatMap (keyV d)).length ≤ 6600 := by
  obtain ⟨hs, hi, hl, d', hd, hall⟩ := list_parts (d + 1) v h hk
  obtain rfl : d = d' := by omega
  have h1 := flatK_len (keyV d) (fun v => 1 + v.t.size) ((itms v).take k) (fun u hu => by have := keyV_len d u (hall u (List.mem_of_mem_take hu)).1; omega)
  have h2 := items_sum1 v.t.size v.t (itms v) (Nat.le_refl _) hi
  have h3 := sum_take (fun v : Val => 1 + v.t.size) (itms v) k
  omega
theorem doc_key_len (d : Nat) (v : Val) (h : fits (d + 1) v = true) (hk : v.k = 5) (k : Nat) : (((flds v).take k).flatMap (fieldK (keyV d))).length ≤ 6600 := by
  obtain ⟨hs, hi, hl, _, d', hd, hall, _⟩ := doc_parts (d + 1) v h hk
  obtain rfl : d = d' := by omega
  have h1 := flatK_len (fieldK (keyV d)) (fun f => 2 + f.name.size + f.v.t.size) ((flds v).take k) (fun f hf => fieldK_len _ f (keyV_len d f.v (hall f (List.mem_of_mem_take hf)).1))
  have h2 := fields_sum1 v.t.size v.t (flds v) (Nat.le_refl _) hi
  have h3 := sum_take (fun f : Fld => 2 + f.name.size + f.v.t.size) (flds v) k
  omega
theorem flat_take {α : Type} (f : α → List UInt8) (l : List α) (q : Nat) (h : q < l.length) : (l.take (q + 1)).flatMap f = (l.take q).flatMap f ++ f l[q] := by
  rw [List.take_succ_eq_append_getElem h, List.flatMap_append]; simp
/-- A value's key, rising or falling, and a code. -/
def dirK (desc : Bool) (l : List UInt8) : List UInt8 := if desc then turnL l else l
def keyP (v : Val) (desc : Bool) : ByteArray × Int := if okB v = true then (mkB (dirK desc (keyV 5 v)), 0) else (em, 1)
theorem keyP_ok (v : Val) (desc : Bool) (h : okB v = true) : keyP v desc = (mkB (dirK desc (keyV 5 v)), 0) := by unfold keyP; rw [if_pos h]
theorem keyP_bad (v : Val) (desc : Bool) (h : okB v = false) : keyP v desc = (em, 1) := by unfold keyP; rw [h]; rfl

end Go.Proofs.YtdchhjnmhnehiaaGreatDoor
