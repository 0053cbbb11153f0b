/- A field by its name, said plainly; where it stands among fields that rise. Nothing of the program is used here. -/
import Derived.Test.YtcggkeleaepebaaGreatDoorOrdM
namespace Go.Proofs.YtcggkeleaepebaaGreatDoor
open Go.RowKit
set_option linter.unusedVariables false

theorem less_trans : ∀ x y z : List UInt8, Op.bytesLess x y = true → Op.bytesLess y z = true → Op.bytesLess x z = true
  | x, [], z, h, _ => by cases x <;> simp [Op.bytesLess] at h
  | x, b :: y, [], _, h => by simp [Op.bytesLess] at h
  | [], b :: y, c :: z, _, _ => by simp [Op.bytesLess]
  | a :: x, b :: y, c :: z, h1, h2 => by
    have ih := less_trans x y z
    simp only [Op.bytesLess] at h1 h2 ⊢
    by_cases hab : a < b
    · by_cases hbc : b < c
      · have : a < c := by simp [UInt8.lt_iff_toNat_lt] at *; omega
        simp [this]
      · have hbc2 : b = c := by
          by_cases hcb : b = c
          · exact hcb
          · simp [hbc, hcb] at h2
        subst hbc2; simp [hab]
    · have hab2 : a = b := by
        by_cases e : a = b
        · exact e
        · simp [hab, e] at h1
      subst hab2
      by_cases hbc : a < c
      · simp [hbc]
      · have hbc2 : a = c := by
          by_cases e : a = c
          · exact e
          · simp [hbc, e] at h2
        subst hbc2
        simp at h1 h2 ⊢
        exact ih h1 h2
theorem less_irrefl : ∀ x : List UInt8, Op.bytesLess x x = false
  | [] => rfl
  | a :: x => by simp [Op.bytesLess, less_irrefl x]
theorem ltB_trans {a b c : ByteArray} (h1 : ltB a b = true) (h2 : ltB b c = true) : ltB a c = true := less_trans _ _ _ h1 h2
theorem ltB_irrefl (a : ByteArray) : ltB a a = false := less_irrefl _
theorem ltB_asym {a b : ByteArray} (h : ltB a b = true) : ltB b a = false := by
  cases h2 : ltB b a
  · rfl
  · have := ltB_trans h h2; rw [ltB_irrefl] at this; cases this
theorem cB_lt (a b : ByteArray) : decide (cB a b < 0) = ltB a b := by
  by_cases h : a = b
  · subst h; rw [ltB_irrefl, (cB_zero a a).mpr rfl]; rfl
  · rw [cB_ne a b h]
    cases h2 : ltB b a
    · have := less_total b.toList a.toList
      have e : (a.toList == b.toList) = false := beq_eq_false_iff_ne.mpr (fun e => h (ba_ext (by rw [← ByteArray.toList_eq, ← ByteArray.toList_eq]; exact e)))
      unfold ltB at h2 ⊢
      rw [e, h2] at this
      simpa using this.symm
    · rw [ltB_asym h2]; rfl
theorem eqL (a b : ByteArray) : (a.toList == b.toList) = true ↔ a = b := by
  rw [beq_iff_eq]
  exact ⟨fun e => ba_ext (by rw [← ByteArray.toList_eq, ← ByteArray.toList_eq]; exact e), fun e => by rw [e]⟩
theorem eqL_false (a b : ByteArray) (h : a ≠ b) : (a.toList == b.toList) = false := by
  cases h2 : (a.toList == b.toList)
  · rfl
  · exact absurd ((eqL a b).mp h2) h

/-- The value of the field of a name. -/
def fieldV (nm : ByteArray) : List Fld → Option Val
  | [] => none
  | f :: r => if cB f.name nm = 0 then some f.v else fieldV nm r
theorem fieldV_none (nm : ByteArray) : ∀ l : List Fld, (∀ f ∈ l, f.name ≠ nm) → fieldV nm l = none
  | [], _ => rfl
  | f :: r, h => by
    rw [fieldV, if_neg (fun e => h f (by simp) ((cB_zero _ _).mp e))]
    exact fieldV_none nm r (fun g hg => h g (by simp [hg]))
theorem fieldV_at (nm : ByteArray) : ∀ (l : List Fld) (i : Nat) (hi : i < l.length), (∀ q (h : q < l.length), q < i → l[q].name ≠ nm) → l[i].name = nm → fieldV nm l = some l[i].v
  | f :: r, 0, _, _, h => by
    have h' : f.name = nm := h
    rw [fieldV, if_pos ((cB_zero _ _).mpr h')]; rfl
  | f :: r, i + 1, hi, hno, h => by
    rw [fieldV, if_neg (fun e => hno 0 (by simp) (by omega) ((cB_zero _ _).mp e))]
    exact fieldV_at nm r i (by simpa using hi) (fun q hq hlt => by have := hno (q + 1) (by simpa using hq) (by omega); simpa using this) (by simpa using h)

/-- The names of fields rise. -/
def Rise (l : List Fld) : Prop := ∀ i j (hi : i < l.length) (hj : j < l.length), i < j → ltB l[i].name l[j].name = true
theorem riseAll_first (p : Val → Bool) : ∀ (l : List Fld) (last : ByteArray), riseAll p last l = true → ∀ f ∈ l, ltB last f.name = true
  | [], _, _, f, hf => by simp at hf
  | g :: r, last, h, f, hf => by
    simp only [riseAll, Bool.and_eq_true] at h
    rcases List.mem_cons.mp hf with rfl | hf
    · exact h.1.1.2
    · exact ltB_trans h.1.1.2 (riseAll_first p r g.name h.2 f hf)
theorem rise_of (p : Val → Bool) : ∀ (l : List Fld) (last : ByteArray), riseAll p last l = true → Rise l
  | [], _, _ => fun i j hi => by simp at hi
  | g :: r, last, h => by
    simp only [riseAll, Bool.and_eq_true] at h
    have ih := rise_of p r g.name h.2
    intro i j hi hj hij
    match i, j, hi, hj, hij with
    | 0, j + 1, _, hj, _ => exact riseAll_first p r g.name h.2 _ (List.getElem_mem _)
    | i + 1, j + 1, hi, hj, hij => exact ih i j (by simpa using hi) (by simpa using hj) (by omega)
theorem riseAll_all (p : Val → Bool) : ∀ (l : List Fld) (last : ByteArray), riseAll p last l = true → ∀ f ∈ l, p f.v = true ∧ shortB f.name = true
  | [], _, _, f, hf => by simp at hf
  | g :: r, last, h, f, hf => by
    simp only [riseAll, Bool.and_eq_true] at h
    rcases List.mem_cons.mp hf with rfl | hf
    · exact ⟨h.1.2, h.1.1.1⟩
    · exact riseAll_all p r g.name h.2 f hf

/-- Where a name stands, or would stand, among fields that rise, and whether it is there. -/
structure Place (l : List Fld) (nm : ByteArray) (i : Nat) (b : Bool) : Prop where
  le : i ≤ l.length
  lo : ∀ q (h : q < l.length), q < i → ltB l[q].name nm = true
  hi : ∀ q (h : q < l.length), i ≤ q → ltB l[q].name nm = false
  there : b = true ↔ ∃ h : i < l.length, l[i].name = nm
theorem Place.some {l : List Fld} {nm : ByteArray} {i : Nat} (h : Place l nm i true) : ∃ hi : i < l.length, l[i].name = nm ∧ fieldV nm l = some l[i].v := by
  obtain ⟨hi, he⟩ := h.there.mp rfl
  exact ⟨hi, he, fieldV_at nm l i hi (fun q hq hlt e => by have := h.lo q hq hlt; rw [e, ltB_irrefl] at this; cases this) he⟩
theorem Place.none {l : List Fld} {nm : ByteArray} {i : Nat} (hr : Rise l) (h : Place l nm i false) : fieldV nm l = none :=
  fieldV_none nm l (fun f hf e => by
    obtain ⟨q, hq, rfl⟩ := List.getElem_of_mem hf
    rcases Nat.lt_or_ge q i with hlt | hge
    · have := h.lo q hq hlt; rw [e, ltB_irrefl] at this; cases this
    · rcases Nat.lt_or_ge i q with hlt | hge2
      · have h1 := hr i q (by omega) hq hlt
        rw [e] at h1
        have := h.hi i (by omega) (Nat.le_refl _)
        rw [this] at h1; cases h1
      · obtain rfl : q = i := by omega
        have := h.there.mpr ⟨hq, e⟩; cases this)

end Go.Proofs.YtcggkeleaepebaaGreatDoor
