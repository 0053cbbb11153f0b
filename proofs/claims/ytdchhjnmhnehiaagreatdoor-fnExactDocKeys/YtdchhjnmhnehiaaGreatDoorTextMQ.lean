/- The text of a value, said plainly. Nothing of the program is used here. -/
import Derived.Test.YtdchhjnmhnehiaaGreatDoorOwnQ
import Derived.Lib.ItoaNum
import Derived.Lib.ItoaLen
import Derived.Test.YtdchhjnmhnehiaaGreatDoorSplitWQ
import Derived.Deep.RegionWith
import Derived.Test.YtdchhjnmhnehiaaGreatDoorGetSQ
import Derived.Maps.AppendAt
import Derived.Deep.RegionLaw
import Derived.Deep.DeepCutAuto
namespace Go.Proofs.YtdchhjnmhnehiaaGreatDoor
open Go.RowKit
set_option linter.unusedVariables false

/-- Texts with a comma between. -/
def joinL : List (List UInt8) → List UInt8
  | [] => []
  | x :: r => x ++ r.flatMap (fun y => 44 :: y)
theorem joinL_more (l : List (List UInt8)) (x : List UInt8) (h : l ≠ []) : joinL (l ++ [x]) = joinL l ++ 44 :: x := by
  cases l with
  | nil => exact absurd rfl h
  | cons y r => simp [joinL]
theorem joinL_one (x : List UInt8) : joinL [x] = x := by simp [joinL]
theorem joinL_take {α : Type} (f : α → List UInt8) (l : List α) (k : Nat) (h : k < l.length) (h0 : 0 < k) : joinL ((l.take (k + 1)).map f) = joinL ((l.take k).map f) ++ 44 :: f l[k] := by
  rw [List.take_succ_eq_append_getElem h, List.map_append, List.map_singleton, joinL_more]
  intro e
  have := congrArg List.length e
  rw [List.length_map, List.length_take, List.length_nil] at this
  omega
theorem joinL_take0 {α : Type} (f : α → List UInt8) (l : List α) (h : 0 < l.length) : joinL ((l.take 1).map f) = f l[0] := by
  cases l with
  | nil => simp at h
  | cons x r => simp [joinL]
def boolT (b : Bool) : List UInt8 := if b then [116, 114, 117, 101] else [102, 97, 108, 115, 101]
/-- The text of a value that holds no other. -/
def baseT (v : Val) : List UInt8 :=
  if v.k = 0 then [110, 117, 108, 108]
  else if v.k = 1 then boolT (v.n == 1)
  else if v.k = 2 then Lib.itoa v.n
  else if v.k = 3 then 39 :: (v.t.data.toList ++ [39])
  else []
def fieldT (r : Val → List UInt8) (f : Fld) : List UInt8 := f.name.data.toList ++ 58 :: r f.v
def textV : Nat → Val → List UInt8
  | 0, v => baseT v
  | d + 1, v =>
    if v.k = 4 then 91 :: (joinL ((itms v).map (textV d)) ++ [93])
    else if v.k = 5 then 123 :: (joinL ((flds v).map (fieldT (textV d))) ++ [125])
    else baseT v
theorem textV_base (d : Nat) (v : Val) (h4 : v.k ≠ 4) (h5 : v.k ≠ 5) : textV d v = baseT v := by
  cases d with
  | zero => rfl
  | succ d => rw [textV, if_neg h4, if_neg h5]
theorem textV_list (d : Nat) (v : Val) (h : v.k = 4) : textV (d + 1) v = 91 :: (joinL ((itms v).map (textV d)) ++ [93]) := by rw [textV, if_pos h]
theorem textV_doc (d : Nat) (v : Val) (h : v.k = 5) : textV (d + 1) v = 123 :: (joinL ((flds v).map (fieldT (textV d))) ++ [125]) := by rw [textV, if_neg (by omega), if_pos h]

theorem joinL_len {α : Type} (f : α → List UInt8) (g : α → Nat) : ∀ l : List α, (∀ u ∈ l, (f u).length + 1 ≤ 22 * g u) → (joinL (l.map f)).length ≤ 22 * (l.map g).sum
  | [], _ => by simp [joinL]
  | x :: r, h => by
    have h1 := h x (by simp)
    have h2 : ∀ r : List α, (∀ u ∈ r, (f u).length + 1 ≤ 22 * g u) → ((r.map f).flatMap (fun y => (44 : UInt8) :: y)).length ≤ 22 * (r.map g).sum := by
      intro r
      induction r with
      | nil => intro _; simp
      | cons y r ih =>
        intro hr
        have h3 := hr y (by simp)
        have h4 := ih (fun u hu => hr u (by simp [hu]))
        rw [List.map_cons, List.flatMap_cons, List.length_append, List.length_cons, List.map_cons, List.sum_cons]
        omega
    have h5 := h2 r (fun u hu => h u (by simp [hu]))
    rw [List.map_cons, joinL, List.length_append, List.map_cons, List.sum_cons]
    omega
theorem base_len (v : Val) (h : base v = true) : (baseT v).length + 1 ≤ 22 * (1 + v.t.size) := by
  unfold base at h
  unfold baseT
  have hl := toList_length v.t
  split at h
  · rename_i e; rw [if_pos e]; simp; omega
  · rename_i e0; rw [if_neg e0]
    split at h
    · rename_i e; rw [if_pos e]; unfold boolT; split <;> simp <;> omega
    · rename_i e1; rw [if_neg e1]
      split at h
      · rename_i e; rw [if_pos e]
        rw [decide_eq_true_eq] at h
        have := Lib.itoa_length_le v.n (by omega) (by omega)
        omega
      · rename_i e2; rw [if_neg e2]
        split at h
        · rename_i e; rw [if_pos e]; simp; omega
        · cases h
theorem textV_len : ∀ (d : Nat) (v : Val), fits d v = true → (textV d v).length + 1 ≤ 22 * (1 + v.t.size)
  | 0, v, h => base_len v h
  | d + 1, v, h => by
    have ih := textV_len d
    by_cases h4 : v.k = 4
    · obtain ⟨hs, hi, hl, d', hd, hall⟩ := list_parts (d + 1) v h h4
      obtain rfl : d = d' := by omega
      rw [textV_list d v h4]
      have h1 := joinL_len (textV d) (fun v => 1 + v.t.size) (itms v) (fun u hu => ih u (hall u hu).1)
      have h2 := items_sum1 v.t.size v.t (itms v) (Nat.le_refl _) hi
      simp only [List.length_cons, List.length_append, List.length_nil]
      omega
    · by_cases h5 : v.k = 5
      · obtain ⟨hs, hi, hl, _, d', hd, hall, _⟩ := doc_parts (d + 1) v h h5
        obtain rfl : d = d' := by omega
        rw [textV_doc d v h5]
        have h1 := joinL_len (fieldT (textV d)) (fun f => 2 + f.name.size + f.v.t.size) (flds v) (fun f hf => by
          have := ih f.v (hall f hf).1
          have hl := toList_length f.name
          unfold fieldT
          rw [List.length_append, List.length_cons, hl]
          omega)
        have h2 := fields_sum1 v.t.size v.t (flds v) (Nat.le_refl _) hi
        simp only [List.length_cons, List.length_append, List.length_nil]
        omega
      · rw [textV_base (d + 1) v h4 h5]
        rw [fits_base (d + 1) v h4 h5] at h
        exact base_len v h
theorem list_join_len (d : Nat) (v : Val) (h : fits (d + 1) v = true) (hk : v.k = 4) (k : Nat) : (joinL (((itms v).take k).map (textV d))).length ≤ 6600 := by
  obtain ⟨hs, hi, hl, d', hd, hall⟩ := list_parts (d + 1) v h hk
  obtain rfl : d = d' := by omega
  have h1 := joinL_len (textV d) (fun v => 1 + v.t.size) ((itms v).take k) (fun u hu => textV_len d u (hall u (List.mem_of_mem_take hu)).1)
  have h2 := items_sum1 v.t.size v.t (itms v) (Nat.le_refl _) hi
  have h3 := sum_take (fun v : Val => 1 + v.t.size) (itms v) k
  omega
theorem doc_join_len (d : Nat) (v : Val) (h : fits (d + 1) v = true) (hk : v.k = 5) (k : Nat) : (joinL (((flds v).take k).map (fieldT (textV d)))).length ≤ 6600 := by
  obtain ⟨hs, hi, hl, _, d', hd, hall, _⟩ := doc_parts (d + 1) v h hk
  obtain rfl : d = d' := by omega
  have h1 := joinL_len (fieldT (textV d)) (fun f => 2 + f.name.size + f.v.t.size) ((flds v).take k) (fun f hf => by
    have := textV_len d f.v (hall f (List.mem_of_mem_take hf)).1
    have hl := toList_length f.name
    unfold fieldT
    rw [List.length_append, List.length_cons, hl]
    omega)
  have h2 := fields_sum1 v.t.size v.t (flds v) (Nat.le_refl _) hi
  have h3 := sum_take (fun f : Fld => 2 + f.name.size + f.v.t.size) (flds v) k
  omega

end Go.Proofs.YtdchhjnmhnehiaaGreatDoor

/- What the specification's digits and joined texts are, for every number and list. -/
namespace Go.Proofs.YtdchhjnmhnehiaaGreatDoor
open Go.RowKit
set_option linter.unusedVariables false

theorem convC (W : World) (g : Nat) (z : Int) (h : W.cell? ⟨g, 0, none⟩ = some (.int .u8 z)) : (convert 22 9 (.slice (some ⟨g, 0, none⟩) 1 1)).run Tryz.prog W = .ok (.string (txt [z])) W :=
  run_convert_bytes_arg _ 22 5 Tryz.underlying22 Tryz.underlying5 g 0 1 1 [z] rfl (fun i hi => by
    have : i = 0 := by omega
    subst this
    simpa using h) 9 Tryz.underlying9
theorem dig_one (n : Nat) (h : n < 10) : txt [48 + (n : Int)] = mkB [UInt8.ofNat (48 + n)] := by
  have hh : n = 0 ∨ n = 1 ∨ n = 2 ∨ n = 3 ∨ n = 4 ∨ n = 5 ∨ n = 6 ∨ n = 7 ∨ n = 8 ∨ n = 9 := by omega
  rcases hh with rfl | rfl | rfl | rfl | rfl | rfl | rfl | rfl | rfl | rfl <;> rfl
theorem dec_len (n : Nat) (h : n ≤ 10000000000000) : (Lib.decDigits n).length ≤ 21 := by
  have := Lib.itoa_length_le (n : Int) (by omega) (by omega)
  unfold Lib.itoa at this
  rw [if_neg (by omega)] at this
  simpa using this
theorem dec_small (n : Nat) (h : n < 10) : Lib.decDigits n = [UInt8.ofNat (48 + n)] := by rw [Lib.decDigits, dif_pos h]
theorem dec_big (n : Nat) (h : ¬ n < 10) : Lib.decDigits n = Lib.decDigits (n / 10) ++ [UInt8.ofNat (48 + n % 10)] := by rw [Lib.decDigits, dif_neg h]

/-- The bytes of texts. -/
def datas (l : List ByteArray) : List (List UInt8) := l.map (fun s => s.data.toList)
theorem datas_take (l : List ByteArray) (k : Nat) : datas (l.take k) = (datas l).take k := by unfold datas; rw [List.map_take]
end Go.Proofs.YtdchhjnmhnehiaaGreatDoor

/- What the specification's text of a value is, for every right value. -/
namespace Go.Proofs.YtdchhjnmhnehiaaGreatDoor
open Go.RowKit
set_option linter.unusedVariables false

theorem datas_map {α : Type} (f : α → List UInt8) (l : List α) : datas (l.map (fun u => mkB (f u))) = l.map f := by
  unfold datas; rw [List.map_map]; apply List.map_congr_left; intro u _; exact mkB_data _
theorem wrapT (a b : UInt8) (x : List UInt8) : (⟨#[a]⟩ : ByteArray) ++ mkB x ++ (⟨#[b]⟩ : ByteArray) = mkB (a :: (x ++ [b])) := by
  rw [show (⟨#[a]⟩ : ByteArray) = mkB [a] from rfl, show (⟨#[b]⟩ : ByteArray) = mkB [b] from rfl, mkB_app, mkB_app]; rfl

end Go.Proofs.YtdchhjnmhnehiaaGreatDoor

/- What the specification's text of a document is; and of every right value. -/
namespace Go.Proofs.YtdchhjnmhnehiaaGreatDoor
open Go.RowKit
set_option linter.unusedVariables false

theorem ReadF.grown {w w' : World} {g : Nat} {l : List Fld} {row : Option Nat} (h : ReadF w g l) (hg : w.grownBy w' row) (hne : some g ≠ row) : ReadF w' g l :=
  ⟨Nat.lt_of_lt_of_le h.lt hg.size, fun i hi => ⟨(World.cell?_of_block (hg.block g h.lt hne)).trans (h.cells i hi).1, (World.cell?_of_block (hg.block g h.lt hne)).trans (h.cells i hi).2.1, (World.cell?_of_block (hg.block g h.lt hne)).trans (h.cells i hi).2.2.1, (World.cell?_of_block (hg.block g h.lt hne)).trans (h.cells i hi).2.2.2⟩⟩
/-- One text behind a row of texts of the call's own, as a step of a region of open order. -/
theorem step_text {ops : Array Oper} {o : Oper} {a : Act} {w : World} {K : Act → World → Prop} {Q : Exit → Act → World → Prop} {E : Prop} (hgd : o.guard = none) (s x : Operand)
    (ho : o.op = .call { callee := .builtin .append, args := #[s, x], argTypes := #[42, 42] }) (base n : Nat) (v : Value) (xs : List Value) (t : ByteArray) (ad : Nat)
    (hs : a.eval s = v) (hx : a.eval x = .slice (some ⟨ad, 0, none⟩) 1 1) (hc : w.cell? ⟨ad, 0, none⟩ = some (.string t)) (hown : w.ownsRow base 9 1 v n xs) (hn : n ≤ 1000000) (hbase : base ≤ w.heap.size)
    (hK : ∀ v' w', w'.ownsRow base 9 1 v' (n + 1) (xs ++ [.string t]) → w.grownBy w' v.ownBlock → (¬ v' = .slice none 0 0) → (v'.ownBlock = v.ownBlock ∨ v'.ownBlock = some w.heap.size) → K (a.put o.dst v') w') :
    if Region.wanted o (yielded ops a.tmps) = true then Oper.wp Tryz.prog o a w K Q else E := by
  have hw : Region.wanted o (yielded ops a.tmps) = true := by simp [Region.wanted, hgd]
  rw [if_pos hw]
  obtain ⟨i0, hi, hz0, hz1, hz2⟩ := info_parts infoS
  obtain ⟨v', w', hr, h2, h3, h4, h5⟩ := run_append_own_at (P := Tryz.prog) w base 42 o.type 9 i0 (.string ByteArray.empty) 1 16 Tryz.underlying42 hi hz0 hz1 hz2 rfl (by decide) v n xs hown ⟨ad, 0, none⟩ 1 1 [.string t] rfl (fun j u hj => by
    match j, hj with
    | 0, hj => simp at hj; subst hj; rw [addr0]; exact hc
    | j + 1, hj => simp at hj) (by intro u hu; simp at hu; subst hu; rfl) (by unfold maxLen; omega) (by omega) hbase
  unfold Oper.wp execOp
  simp only [ho, resolve, invoke, builtin, Sem.run_bind, Sem.run_pure, Result.andThen_ok, List.map_toArray, List.map_cons, List.map_nil, hs, hx, hr]
  exact hK _ _ h2 h3 (fun e => by have := (h4.mp e).2; simp at this) h5

end Go.Proofs.YtdchhjnmhnehiaaGreatDoor
