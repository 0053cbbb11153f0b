/- What becomes of a tree into which an entry is put, said plainly. -/
import Derived.Test.YtnmpfooegnmknaaDraC
namespace Go.Proofs.Ytnmpfooegnmknaa.Tr
open Go.RowKit
set_option linter.unusedVariables false

/-- What becomes of a tree into which an entry is put: its pages, its next number, the number of a page that is new, the code. -/
def PutR (f : List Pg) (next : Int) (e : Ent) (f' : List Pg) (next' num code : Int) : Prop :=
  if treeB f next = true ∧ entB e = true then
    ∃ p i b, f[place f e]? = some p ∧ PlaceE p.es e i b ∧
      ((b = true ∧ f' = f ∧ next' = next ∧ num = 0 ∧ code = 12) ∨
       (b = false ∧ p.es.length < 4 ∧ f' = putP f (place f e) i e ∧ next' = next ∧ num = 0 ∧ code = 0) ∨
       (b = false ∧ p.es.length = 4 ∧ (f.length = 60 ∨ next = 100000) ∧ f' = f ∧ next' = next ∧ num = 0 ∧ code = 7) ∨
       (b = false ∧ p.es.length = 4 ∧ f.length < 60 ∧ next < 100000 ∧ f' = splitP f next (place f e) i e ∧ next' = next + 1 ∧ num = next ∧ code = 0))
  else f' = [] ∧ next' = 0 ∧ num = 0 ∧ code = 1
theorem PutR.uniq {f : List Pg} {next : Int} {e : Ent} {f1 f2 : List Pg} {n1 n2 m1 m2 c1 c2 : Int} (h1 : PutR f next e f1 n1 m1 c1) (h2 : PutR f next e f2 n2 m2 c2) : f1 = f2 ∧ n1 = n2 ∧ m1 = m2 ∧ c1 = c2 := by
  unfold PutR at h1 h2
  split at h1
  · rename_i hT
    rw [if_pos hT] at h2
    obtain ⟨p, i, b, hp, hP, h1⟩ := h1
    obtain ⟨p2, i2, b2, hp2, hP2, h2⟩ := h2
    rw [hp] at hp2
    cases hp2
    obtain ⟨rfl, rfl⟩ := hP.uniq hP2
    rcases h1 with ⟨rfl, rfl, rfl, rfl, rfl⟩ | ⟨rfl, _, rfl, rfl, rfl, rfl⟩ | ⟨rfl, hl, hf, rfl, rfl, rfl, rfl⟩ | ⟨rfl, hl, hf, hn, rfl, rfl, rfl, rfl⟩ <;>
      rcases h2 with ⟨hb, rfl, rfl, rfl, rfl⟩ | ⟨hb, _, rfl, rfl, rfl, rfl⟩ | ⟨hb, hl2, hf2, rfl, rfl, rfl, rfl⟩ | ⟨hb, hl2, hf2, hn2, rfl, rfl, rfl, rfl⟩ <;>
      first
        | exact ⟨rfl, rfl, rfl, rfl⟩
        | (exfalso; revert hb; decide)
        | (exfalso; omega)
  · rename_i hT
    rw [if_neg hT] at h2
    exact ⟨h1.1.trans h2.1.symm, h1.2.1.trans h2.2.1.symm, h1.2.2.1.trans h2.2.2.1.symm, h1.2.2.2.trans h2.2.2.2.symm⟩
theorem PutR.right {f : List Pg} {next : Int} {e : Ent} {f' : List Pg} {n m code : Int} (h : PutR f next e f' n m code) (hT : treeB f next = true ∧ entB e = true) : treeB f' n = true := by
  unfold PutR at h
  rw [if_pos hT] at h
  obtain ⟨p, i, b, hp, hP, h⟩ := h
  obtain ⟨hk, rfl⟩ := List.getElem?_eq_some_iff.1 hp
  rcases h with ⟨rfl, rfl, rfl, _⟩ | ⟨rfl, hl, rfl, rfl, _⟩ | ⟨rfl, hl, hf, rfl, rfl, _⟩ | ⟨rfl, hl, hf, hn, rfl, rfl, _⟩
  · exact hT.1
  · exact putP_right hT.1 hT.2 hk hP hl
  · exact hT.1
  · exact splitP_right hT.1 hT.2 hk hP hl hf hn
theorem PutR.bad {f : List Pg} {next : Int} {e : Ent} (h : ¬ (treeB f next = true ∧ entB e = true)) : PutR f next e [] 0 0 1 := by
  unfold PutR; rw [if_neg h]; exact ⟨rfl, rfl, rfl, rfl⟩

end Go.Proofs.Ytnmpfooegnmknaa.Tr
