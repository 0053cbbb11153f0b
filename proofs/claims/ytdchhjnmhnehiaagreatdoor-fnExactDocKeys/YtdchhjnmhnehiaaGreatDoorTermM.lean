/- What a term lets in, said plainly. Nothing of the program is used here. -/
import Derived.Test.YtdchhjnmhnehiaaGreatDoorGetM
import Derived.Test.YtdchhjnmhnehiaaGreatDoorFitDepth
import Derived.Test.YtdchhjnmhnehiaaGreatDoorOrdS
import Derived.Test.YtdchhjnmhnehiaaGreatDoorSplitM
namespace Go.Proofs.YtdchhjnmhnehiaaGreatDoor
open Go.RowKit
set_option linter.unusedVariables false

instance : DecidableEq Val := fun a b =>
  if h : a.k = b.k ∧ a.n = b.n ∧ a.t = b.t then isTrue (val_ext h.1 h.2.1 h.2.2) else isFalse (fun e => h (by subst e; exact ⟨rfl, rfl, rfl⟩))
/-- Does one value do what a term asks. -/
def oneT (op : Int) (c v : Val) : Bool :=
  if op = 1 ∨ op = 2 then decide (v = c)
  else if op = 3 then decide (v.k = c.k) && decide (ordV 5 v c < 0)
  else if op = 4 then decide (v.k = c.k) && decide (ordV 5 v c ≤ 0)
  else if op = 5 then decide (v.k = c.k) && decide (0 < ordV 5 v c)
  else if op = 6 then decide (v.k = c.k) && decide (0 ≤ ordV 5 v c)
  else if op = 7 then (itms c).any (fun u => decide (u = v))
  else if op = 9 then decide (v.k = c.n)
  else if op = 10 then decide (v.k = 4) && decide (((itms v).length : Int) = c.n)
  else true
def fitsO (op o : Int) : Bool := if op = 3 then decide (o < 0) else if op = 4 then decide (o ≤ 0) else if op = 5 then decide (0 < o) else decide (0 ≤ o)
theorem oneT_ord (op : Int) (c v : Val) (h : op = 3 ∨ op = 4 ∨ op = 5 ∨ op = 6) : oneT op c v = (decide (v.k = c.k) && fitsO op (ordV 5 v c)) := by
  rcases h with rfl | rfl | rfl | rfl <;> simp [oneT, fitsO]
/-- What is held against a term: null where nothing is, but for type. -/
def heldT (op : Int) (l : List Val) : List Val := if l = [] then (if op = 9 then [] else [⟨0, 0, em⟩]) else l
/-- Does a term let in a document in which its path comes to these values. -/
def letsT (op : Int) (c : Val) (l : List Val) : Bool :=
  if op = 8 then (decide (0 < (l.length : Int)) == decide (c.n = 1)) else ((heldT op l).any (oneT op c) != decide (op = 2))
/-- Does a term let in a document. -/
def termL (op : Int) (p : ByteArray) (c doc : Val) : Bool := letsT op c (getP (pieces p) doc)
/-- Is a value a right document. -/
def docB (v : Val) : Bool := decide (v.k = 5) && okB v
theorem getP_ok : ∀ (ws : List ByteArray) (v : Val), okB v = true → ∀ u ∈ getP ws v, okB u = true
  | [], v, h, u, hu => by
    rw [getP_end] at hu
    rcases List.mem_cons.mp hu with rfl | hu
    · exact h
    · split at hu
      · rename_i h4
        obtain ⟨_, _, _, d', hd, hall⟩ := list_parts 5 v h h4
        exact (fits_depth d' u (hall u hu).1 5 (by omega)).1
      · cases hu
  | nm :: ws, v, h, u, hu => by
    have ih := getP_ok ws
    have hdoc : ∀ x : Val, okB x = true → x.k = 5 → ∀ u ∈ docP (getP ws) nm x, okB u = true := by
      intro x hx h5 u hu
      obtain ⟨_, _, _, _, d', hd, hall, _⟩ := doc_parts 5 x hx h5
      cases hfv : fieldV nm (flds x) with
      | none => rw [docP_none _ _ _ hfv] at hu; cases hu
      | some y =>
        rw [docP_some _ _ _ y hfv] at hu
        obtain ⟨f, hf, rfl⟩ := fieldV_mem nm y _ hfv
        exact ih f.v (fits_depth d' f.v (hall f hf).1 5 (by omega)).1 u hu
    by_cases h5 : v.k = 5
    · rw [getP_doc nm ws v h5] at hu
      exact hdoc v h h5 u hu
    · by_cases h4 : v.k = 4
      · rw [getP_list nm ws v h4] at hu
        obtain ⟨it, hit, hu⟩ := List.mem_flatMap.mp hu
        obtain ⟨_, _, _, d', hd, hall⟩ := list_parts 5 v h h4
        have hok : okB it = true := (fits_depth d' it (hall it hit).1 5 (by omega)).1
        split at hu
        · rename_i h5'
          exact hdoc it hok h5' u hu
        · cases hu
      · rw [getP_none nm ws v h5 h4] at hu; cases hu
theorem ok_zero : okB ⟨0, 0, em⟩ = true := by
  unfold okB; rw [fits_base 5 _ (by show (0 : Int) ≠ 4; decide) (by show (0 : Int) ≠ 5; decide)]; rfl
theorem heldT_ok (op : Int) (l : List Val) (h : ∀ u ∈ l, okB u = true) : ∀ u ∈ heldT op l, okB u = true := by
  intro u hu
  unfold heldT at hu
  split at hu
  · split at hu
    · cases hu
    · simp at hu; subst hu; exact ok_zero
  · exact h u hu
theorem ok_size (v : Val) (h : okB v = true) : v.t.size ≤ 300 := by
  rcases Nat.lt_or_ge 300 v.t.size with h' | h'
  · rw [ok_big v h'] at h; cases h
  · exact h'
theorem ok_items (v : Val) (h : okB v = true) (h4 : v.k = 4) : items v.t = some (itms v) ∧ (itms v).length ≤ 300 ∧ ∀ u ∈ itms v, okB u = true := by
  obtain ⟨_, hi, hl, d', hd, hall⟩ := list_parts 5 v h h4
  exact ⟨hi, hl, fun u hu => (fits_depth d' u (hall u hu).1 5 (by omega)).1⟩

end Go.Proofs.YtdchhjnmhnehiaaGreatDoor
