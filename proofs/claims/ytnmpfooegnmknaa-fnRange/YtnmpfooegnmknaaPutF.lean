/- An entry dropped from a tree: the specification's answer. -/
import Derived.Test.YtnmpfooegnmknaaPutE
namespace Go.Proofs.Ytnmpfooegnmknaa.Tr
open Go.RowKit
set_option linter.unusedVariables false

/-- What becomes of a tree from which an entry is dropped: its pages, its next number, the code. -/
def DropR (f : List Pg) (next : Int) (e : Ent) (f' : List Pg) (next' code : Int) : Prop :=
  if treeB f next = true ∧ entB e = true then
    next' = next ∧ ((code = 5 ∧ f' = f ∧ ∀ p, f[place f e]? = some p → ∀ x ∈ p.es, x ≠ e) ∨ (code = 0 ∧ ∃ i p, f[place f e]? = some p ∧ p.es[i]? = some e ∧ f' = dropP f (place f e) i))
  else f' = [] ∧ next' = 0 ∧ code = 1
theorem DropR.uniq {f : List Pg} {next : Int} {e : Ent} {f1 f2 : List Pg} {n1 n2 c1 c2 : Int} (h1 : DropR f next e f1 n1 c1) (h2 : DropR f next e f2 n2 c2) : f1 = f2 ∧ n1 = n2 ∧ c1 = c2 := by
  unfold DropR at h1 h2
  split at h1
  · rename_i hT
    rw [if_pos hT] at h2
    obtain ⟨rfl, h1⟩ := h1
    obtain ⟨rfl, h2⟩ := h2
    rcases h1 with ⟨rfl, rfl, ha⟩ | ⟨rfl, i, p, hp, hi, rfl⟩ <;> rcases h2 with ⟨rfl, rfl, hb⟩ | ⟨rfl, j, p2, hp2, hj, rfl⟩
    · exact ⟨rfl, rfl, rfl⟩
    · exact absurd rfl (ha p2 hp2 e (List.mem_of_getElem? hj))
    · exact absurd rfl (hb p hp e (List.mem_of_getElem? hi))
    · rw [hp] at hp2; cases hp2
      obtain ⟨hk, hpe⟩ := List.getElem?_eq_some_iff.1 hp
      have hR := page_rise hT.1 hk
      rw [hpe] at hR
      obtain ⟨hi1, hi2⟩ := List.getElem?_eq_some_iff.1 hi
      obtain ⟨hj1, hj2⟩ := List.getElem?_eq_some_iff.1 hj
      have hij : i = j := by
        rcases Nat.lt_trichotomy i j with h | h | h
        · have := hR i j hi1 hj1 h; rw [hi2, hj2, lessE_irrefl] at this; cases this
        · exact h
        · have := hR j i hj1 hi1 h; rw [hi2, hj2, lessE_irrefl] at this; cases this
      subst hij
      exact ⟨rfl, rfl, rfl⟩
  · rename_i hT
    rw [if_neg hT] at h2
    exact ⟨h1.1.trans h2.1.symm, h1.2.1.trans h2.2.1.symm, h1.2.2.trans h2.2.2.symm⟩
theorem DropR.right {f : List Pg} {next : Int} {e : Ent} {f' : List Pg} {n code : Int} (h : DropR f next e f' n code) (hT : treeB f next = true ∧ entB e = true) : treeB f' next = true ∧ n = next := by
  unfold DropR at h
  rw [if_pos hT] at h
  obtain ⟨rfl, h⟩ := h
  rcases h with ⟨_, rfl, _⟩ | ⟨_, i, p, hp, hi, rfl⟩
  · exact ⟨hT.1, rfl⟩
  · obtain ⟨hk, rfl⟩ := List.getElem?_eq_some_iff.1 hp
    exact ⟨dropP_right hT.1 hk (List.getElem?_eq_some_iff.1 hi).1, rfl⟩
theorem ownT_none {w : World} {base : Nat} : OwnT w base (.slice none 0 0) [] :=
  ⟨fun _ => .slice none 0 0, [], ⟨⟨rfl, .inl ⟨rfl, rfl⟩⟩, fun i h => absurd h (by simp), fun i h => absurd h (by simp), fun i j h => absurd h (by simp), fun i h => absurd h (by simp)⟩⟩

/-- The specification's drop, with what it needs of the place left out. -/
theorem specDrop_at (p : Option Addr) (cap : Nat) (f : List Pg) (next : Int) (e : Ent) (w : World) (hr : RowP w p f) (hT : treeB f next = true) (hE : entB e = true)
    (hca : ∀ g pa ca i, p = some ⟨g, 0, none⟩ → (h : i < f.length) → w.cell? ⟨g, i * 2 + 1, none⟩ = some (.slice pa f[i].es.length ca) → f[i].es.length ≤ ca) :
    Calls Try.prog 93 #[.agg #[.slice p f.length cap, .int .i64 next], .agg #[.string e.key, .int .i64 e.id]] w fun e' w' => (∃ p' cap' f' code, e' = .returned (.tuple #[.agg #[.slice p' f'.length cap', .int .i64 next], .int .i64 code]) ∧ RowP w' p' f' ∧ (RowF w p f → RowF w' p' f') ∧ DropR f next e f' next code) ∧ Below w.heap.size w w' := by
  have h1 := ((treeB_iff f next).1 hT).1
  have hk := place_lt f e (by omega)
  refine (specDrop_any p cap f next e (place f e) w hr hT rfl hk (fun g pa ca hp hc => hca g pa ca _ hp hk hc)).mono ?_
  rintro e' w' ⟨⟨p', cap', f', code, rfl, hR, hRF, hD⟩, hb⟩
  refine ⟨⟨p', cap', f', code, rfl, hR, hRF, ?_⟩, hb⟩
  unfold DropR
  rw [if_pos ⟨hT, hE⟩]
  refine ⟨rfl, ?_⟩
  rcases hD with ⟨rfl, rfl, hn⟩ | ⟨rfl, i, hi, he, rfl⟩
  · refine .inl ⟨rfl, rfl, fun q hq x hx => ?_⟩
    rw [List.getElem?_eq_getElem hk] at hq
    cases hq
    obtain ⟨j, hj, rfl⟩ := List.mem_iff_getElem.1 hx
    exact hn j hj
  · exact .inr ⟨rfl, i, _, List.getElem?_eq_getElem hk, (List.getElem?_eq_getElem hi).trans (by rw [he]), rfl⟩

end Go.Proofs.Ytnmpfooegnmknaa.Tr
