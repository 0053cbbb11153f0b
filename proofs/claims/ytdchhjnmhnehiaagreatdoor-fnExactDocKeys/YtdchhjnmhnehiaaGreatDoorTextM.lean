/- The text of a value, said plainly. Nothing of the program is used here. -/
import Derived.Test.YtdchhjnmhnehiaaGreatDoorAppB
import Derived.Lib.ItoaNum
import Derived.Lib.ItoaLen
namespace Go.Proofs.YtdchhjnmhnehiaaGreatDoor
open Go.RowKit
set_option linter.unusedVariables false

/-- Texts with a comma between. -/
def joinL : List (List UInt8) → List UInt8
  | [] => []
  | x :: r => x ++ r.flatMap (fun y => 44 :: y)
theorem joinL_more (l : List (List UInt8)) (x : List UInt8) (h : l ≠ []) : joinL (l ++ [x]) = joinL l ++ 44 :: x := by
  cases l with
  | nil => exact absurd rfl h
  | cons y r => simp [joinL]
theorem joinL_one (x : List UInt8) : joinL [x] = x := by simp [joinL]
theorem joinL_take {α : Type} (f : α → List UInt8) (l : List α) (k : Nat) (h : k < l.length) (h0 : 0 < k) : joinL ((l.take (k + 1)).map f) = joinL ((l.take k).map f) ++ 44 :: f l[k] := by
  rw [List.take_succ_eq_append_getElem h, List.map_append, List.map_singleton, joinL_more]
  intro e
  have := congrArg List.length e
  rw [List.length_map, List.length_take, List.length_nil] at this
  omega
theorem joinL_take0 {α : Type} (f : α → List UInt8) (l : List α) (h : 0 < l.length) : joinL ((l.take 1).map f) = f l[0] := by
  cases l with
  | nil => simp at h
  | cons x r => simp [joinL]
def boolT (b : Bool) : List UInt8 := if b then [116, 114, 117, 101] else [102, 97, 108, 115, 101]
/-- The text of a value that holds no other. -/
def baseT (v : Val) : List UInt8 :=
  if v.k = 0 then [110, 117, 108, 108]
  else if v.k = 1 then boolT (v.n == 1)
  else if v.k = 2 then Lib.itoa v.n
  else if v.k = 3 then 39 :: (v.t.data.toList ++ [39])
  else []
def fieldT (r : Val → List UInt8) (f : Fld) : List UInt8 := f.name.data.toList ++ 58 :: r f.v
def textV : Nat → Val → List UInt8
  | 0, v => baseT v
  | d + 1, v =>
    if v.k = 4 then 91 :: (joinL ((itms v).map (textV d)) ++ [93])
    else if v.k = 5 then 123 :: (joinL ((flds v).map (fieldT (textV d))) ++ [125])
    else baseT v
theorem textV_base (d : Nat) (v : Val) (h4 : v.k ≠ 4) (h5 : v.k ≠ 5) : textV d v = baseT v := by
  cases d with
  | zero => rfl
  | succ d => rw [textV, if_neg h4, if_neg h5]
theorem textV_list (d : Nat) (v : Val) (h : v.k = 4) : textV (d + 1) v = 91 :: (joinL ((itms v).map (textV d)) ++ [93]) := by rw [textV, if_pos h]
theorem textV_doc (d : Nat) (v : Val) (h : v.k = 5) : textV (d + 1) v = 123 :: (joinL ((flds v).map (fieldT (textV d))) ++ [125]) := by rw [textV, if_neg (by omega), if_pos h]

theorem joinL_len {α : Type} (f : α → List UInt8) (g : α → Nat) : ∀ l : List α, (∀ u ∈ l, (f u).length + 1 ≤ 22 * g u) → (joinL (l.map f)).length ≤ 22 * (l.map g).sum
  | [], _ => by simp [joinL]
  | x :: r, h => by
    have h1 := h x (by simp)
    have h2 : ∀ r : List α, (∀ u ∈ r, (f u).length + 1 ≤ 22 * g u) → ((r.map f).flatMap (fun y => (44 : UInt8) :: y)).length ≤ 22 * (r.map g).sum := by
      intro r
      induction r with
      | nil => intro _; simp
      | cons y r ih =>
        intro hr
        have h3 := hr y (by simp)
        have h4 := ih (fun u hu => hr u (by simp [hu]))
        rw [List.map_cons, List.flatMap_cons, List.length_append, List.length_cons, List.map_cons, List.sum_cons]
        omega
    have h5 := h2 r (fun u hu => h u (by simp [hu]))
    rw [List.map_cons, joinL, List.length_append, List.map_cons, List.sum_cons]
    omega
theorem base_len (v : Val) (h : base v = true) : (baseT v).length + 1 ≤ 22 * (1 + v.t.size) := by
  unfold base at h
  unfold baseT
  have hl := toList_length v.t
  split at h
  · rename_i e; rw [if_pos e]; simp; omega
  · rename_i e0; rw [if_neg e0]
    split at h
    · rename_i e; rw [if_pos e]; unfold boolT; split <;> simp <;> omega
    · rename_i e1; rw [if_neg e1]
      split at h
      · rename_i e; rw [if_pos e]
        rw [decide_eq_true_eq] at h
        have := Lib.itoa_length_le v.n (by omega) (by omega)
        omega
      · rename_i e2; rw [if_neg e2]
        split at h
        · rename_i e; rw [if_pos e]; simp; omega
        · cases h
theorem textV_len : ∀ (d : Nat) (v : Val), fits d v = true → (textV d v).length + 1 ≤ 22 * (1 + v.t.size)
  | 0, v, h => base_len v h
  | d + 1, v, h => by
    have ih := textV_len d
    by_cases h4 : v.k = 4
    · obtain ⟨hs, hi, hl, d', hd, hall⟩ := list_parts (d + 1) v h h4
      obtain rfl : d = d' := by omega
      rw [textV_list d v h4]
      have h1 := joinL_len (textV d) (fun v => 1 + v.t.size) (itms v) (fun u hu => ih u (hall u hu).1)
      have h2 := items_sum1 v.t.size v.t (itms v) (Nat.le_refl _) hi
      simp only [List.length_cons, List.length_append, List.length_nil]
      omega
    · by_cases h5 : v.k = 5
      · obtain ⟨hs, hi, hl, _, d', hd, hall, _⟩ := doc_parts (d + 1) v h h5
        obtain rfl : d = d' := by omega
        rw [textV_doc d v h5]
        have h1 := joinL_len (fieldT (textV d)) (fun f => 2 + f.name.size + f.v.t.size) (flds v) (fun f hf => by
          have := ih f.v (hall f hf).1
          have hl := toList_length f.name
          unfold fieldT
          rw [List.length_append, List.length_cons, hl]
          omega)
        have h2 := fields_sum1 v.t.size v.t (flds v) (Nat.le_refl _) hi
        simp only [List.length_cons, List.length_append, List.length_nil]
        omega
      · rw [textV_base (d + 1) v h4 h5]
        rw [fits_base (d + 1) v h4 h5] at h
        exact base_len v h
theorem list_join_len (d : Nat) (v : Val) (h : fits (d + 1) v = true) (hk : v.k = 4) (k : Nat) : (joinL (((itms v).take k).map (textV d))).length ≤ 6600 := by
  obtain ⟨hs, hi, hl, d', hd, hall⟩ := list_parts (d + 1) v h hk
  obtain rfl : d = d' := by omega
  have h1 := joinL_len (textV d) (fun v => 1 + v.t.size) ((itms v).take k) (fun u hu => textV_len d u (hall u (List.mem_of_mem_take hu)).1)
  have h2 := items_sum1 v.t.size v.t (itms v) (Nat.le_refl _) hi
  have h3 := sum_take (fun v : Val => 1 + v.t.size) (itms v) k
  omega
theorem doc_join_len (d : Nat) (v : Val) (h : fits (d + 1) v = true) (hk : v.k = 5) (k : Nat) : (joinL (((flds v).take k).map (fieldT (textV d)))).length ≤ 6600 := by
  obtain ⟨hs, hi, hl, _, d', hd, hall, _⟩ := doc_parts (d + 1) v h hk
  obtain rfl : d = d' := by omega
  have h1 := joinL_len (fieldT (textV d)) (fun f => 2 + f.name.size + f.v.t.size) ((flds v).take k) (fun f hf => by
    have := textV_len d f.v (hall f (List.mem_of_mem_take hf)).1
    have hl := toList_length f.name
    unfold fieldT
    rw [List.length_append, List.length_cons, hl]
    omega)
  have h2 := fields_sum1 v.t.size v.t (flds v) (Nat.le_refl _) hi
  have h3 := sum_take (fun f : Fld => 2 + f.name.size + f.v.t.size) (flds v) k
  omega

end Go.Proofs.YtdchhjnmhnehiaaGreatDoor
