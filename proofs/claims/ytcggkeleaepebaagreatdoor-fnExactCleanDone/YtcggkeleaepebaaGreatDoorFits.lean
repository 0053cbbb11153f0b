/- Which values are right, said plainly: their items, their fields, how deep they may be. -/
import Derived.Test.YtcggkeleaepebaaGreatDoorNameOK
import Derived.Test.YtcggkeleaepebaaGreatDoorMath
namespace Go.Proofs.YtcggkeleaepebaaGreatDoor
open Go.RowKit
set_option linter.unusedVariables false

structure Fld where
  name : ByteArray
  v : Val
def cutF (s : ByteArray) : Option (Fld × ByteArray) :=
  match cutT s 1 with
  | none => none
  | some p => (cutV p.2).map fun q => (⟨p.1, q.1⟩, q.2)
theorem cutF_size {s b : ByteArray} {f : Fld} (h : cutF s = some (f, b)) : b.size < s.size ∧ f.name.size < s.size ∧ f.v.t.size < s.size := by
  unfold cutF at h
  cases hc : cutT s 1 with
  | none => rw [hc] at h; cases h
  | some p =>
    rw [hc] at h
    have h1 := cutT_size (a := p.1) (b := p.2) hc
    cases hv : cutV p.2 with
    | none => simp only [hv] at h; cases h
    | some q =>
      simp only [hv] at h; injection h with h; injection h with h2 h3; subst h2; subst h3
      have h4 := cutV_size (v := q.1) (b := q.2) hv
      exact ⟨by omega, by show p.1.size < _; omega, by show q.1.t.size < _; omega⟩

def items (s : ByteArray) : Option (List Val) :=
  if s.size = 0 then some []
  else match h : cutV s with
    | none => none
    | some p => (items p.2).map (p.1 :: ·)
  termination_by s.size
  decreasing_by exact (cutV_size (v := p.1) (b := p.2) h).1
def fields (s : ByteArray) : Option (List Fld) :=
  if s.size = 0 then some []
  else match h : cutF s with
    | none => none
    | some p => (fields p.2).map (p.1 :: ·)
  termination_by s.size
  decreasing_by exact (cutF_size (f := p.1) (b := p.2) h).1
theorem items_nil {s : ByteArray} (h : s.size = 0) : items s = some [] := by rw [items, if_pos h]
theorem items_none {s : ByteArray} (h0 : ¬ s.size = 0) (h : cutV s = none) : items s = none := by
  rw [items, if_neg h0]; split
  · rfl
  · rename_i q; rw [h] at q; cases q
theorem items_cons {s r : ByteArray} {v : Val} (h : cutV s = some (v, r)) : items s = (items r).map (v :: ·) := by
  have := cutV_size h
  rw [items, if_neg (by omega)]; split
  · rename_i q; rw [h] at q; cases q
  · rename_i q; rw [h] at q; cases q; rfl
theorem fields_nil {s : ByteArray} (h : s.size = 0) : fields s = some [] := by rw [fields, if_pos h]
theorem fields_none {s : ByteArray} (h0 : ¬ s.size = 0) (h : cutF s = none) : fields s = none := by
  rw [fields, if_neg h0]; split
  · rfl
  · rename_i q; rw [h] at q; cases q
theorem fields_cons {s r : ByteArray} {f : Fld} (h : cutF s = some (f, r)) : fields s = (fields r).map (f :: ·) := by
  have := cutF_size h
  rw [fields, if_neg (by omega)]; split
  · rename_i q; rw [h] at q; cases q
  · rename_i q; rw [h] at q; cases q; rfl

def shortB (s : ByteArray) : Bool := decide (s.size ≤ 12) && nameB s
def ltB (a b : ByteArray) : Bool := Op.bytesLess a.toList b.toList
def itemsAll (p : Val → Bool) : Option (List Val) → Bool
  | none => false
  | some l => l.all p
def riseAll (p : Val → Bool) (last : ByteArray) : List Fld → Bool
  | [] => true
  | f :: r => shortB f.name && ltB last f.name && p f.v && riseAll p f.name r
def fieldsAll (p : Val → Bool) (last : ByteArray) : Option (List Fld) → Bool
  | none => false
  | some l => riseAll p last l
def base (v : Val) : Bool :=
  if v.k = 0 then decide (v.n = 0 ∧ v.t.size = 0)
  else if v.k = 1 then decide (0 ≤ v.n ∧ v.n ≤ 1 ∧ v.t.size = 0)
  else if v.k = 2 then decide (-1000000000000 ≤ v.n ∧ v.n ≤ 1000000000000 ∧ v.t.size = 0)
  else if v.k = 3 then decide (v.n = 0 ∧ v.t.size ≤ 300)
  else false
def fits : Nat → Val → Bool
  | 0, v => base v
  | d + 1, v =>
    if v.k = 4 then decide (v.n = 0 ∧ v.t.size ≤ 300) && itemsAll (fits d) (items v.t)
    else if v.k = 5 then decide (v.n = 0 ∧ v.t.size ≤ 300) && fieldsAll (fits d) em (fields v.t)
    else base v
theorem itemsAll_cons {p : Val → Bool} {s r : ByteArray} {v : Val} (h : cutV s = some (v, r)) : itemsAll p (items s) = (p v && itemsAll p (items r)) := by
  rw [items_cons h]
  cases items r with
  | none => simp [itemsAll]
  | some l => simp [itemsAll]
theorem fieldsAll_cons {p : Val → Bool} {s r last : ByteArray} {f : Fld} (h : cutF s = some (f, r)) :
    fieldsAll p last (fields s) = (shortB f.name && ltB last f.name && p f.v && fieldsAll p f.name (fields r)) := by
  rw [fields_cons h]
  cases fields r with
  | none => simp [fieldsAll]
  | some l => simp [fieldsAll, riseAll]
theorem fits_base (d : Nat) (v : Val) (h4 : v.k ≠ 4) (h5 : v.k ≠ 5) : fits d v = base v := by
  cases d with
  | zero => rfl
  | succ d => unfold fits; rw [if_neg h4, if_neg h5]
theorem base_holder (v : Val) (h : v.k = 4 ∨ v.k = 5) : base v = false := by
  unfold base; rcases h with h | h <;> rw [h] <;> simp
theorem fits_big (d : Nat) (v : Val) (h : 300 < v.t.size) : fits d v = false := by
  have hb : base v = false := by
    unfold base
    split
    · exact decide_eq_false (by omega)
    · split
      · exact decide_eq_false (by omega)
      · split
        · exact decide_eq_false (by omega)
        · split
          · exact decide_eq_false (by omega)
          · rfl
  cases d with
  | zero => exact hb
  | succ d =>
    have e : decide (v.n = 0 ∧ v.t.size ≤ 300) = false := by simp; omega
    unfold fits; rw [e]; simp [hb]
theorem fits_list (d : Nat) (v : Val) (h : v.k = 4) : fits (d + 1) v = (decide (v.n = 0 ∧ v.t.size ≤ 300) && itemsAll (fits d) (items v.t)) := by
  rw [fits, if_pos h]
theorem fits_doc (d : Nat) (v : Val) (h : v.k = 5) : fits (d + 1) v = (decide (v.n = 0 ∧ v.t.size ≤ 300) && fieldsAll (fits d) em (fields v.t)) := by
  rw [fits, if_neg (by omega), if_pos h]

theorem less_total : ∀ x y : List UInt8, (Op.bytesLess y x || y == x) = !(Op.bytesLess x y)
  | x, [] => by cases x <;> simp [Op.bytesLess]
  | [], b :: y => by simp [Op.bytesLess]
  | a :: x, b :: y => by
    have ih := less_total x y
    simp only [Op.bytesLess]
    by_cases h1 : a < b
    · have h2 : ¬ b < a := by simp [UInt8.lt_iff_toNat_lt] at *; omega
      have h3 : ¬ b = a := by intro e; subst e; simp at h1
      simp [h1, h2, h3]
    · by_cases h4 : b < a
      · have h3 : ¬ a = b := by intro e; subst e; simp at h4
        have h3' : ¬ b = a := fun e => h3 e.symm
        simp [h1, h4, h3]
      · have h3 : a = b := by
          apply UInt8.toNat_inj.mp
          simp [UInt8.lt_iff_toNat_lt] at *; omega
        subst h3
        simpa [h1] using ih
theorem leB_not (a b : ByteArray) : (Op.bytesLess a.toList b.toList || a.toList == b.toList) = !(ltB b a) := less_total _ _
theorem ltB_em (s : ByteArray) (h : 0 < s.size) : ltB em s = true := by
  unfold ltB
  rw [ByteArray.toList_eq s, ByteArray.toList_eq em]
  cases hl : s.data.toList with
  | nil => have := toList_length s; rw [hl] at this; simp at this; omega
  | cons c r => rfl
theorem shortB_pos (s : ByteArray) (h : shortB s = true) : 0 < s.size := by
  by_cases hz : s.size = 0
  · unfold shortB at h; rw [nameB_empty s hz] at h; simp at h
  · omega

/-- The length of the text in a slot: for a loop's measure. -/
def strSize : Value → Nat
  | .string s => s.size
  | _ => 0
theorem strSize_eq (s : ByteArray) : strSize (.string s) = s.size := rfl

end Go.Proofs.YtcggkeleaepebaaGreatDoor
