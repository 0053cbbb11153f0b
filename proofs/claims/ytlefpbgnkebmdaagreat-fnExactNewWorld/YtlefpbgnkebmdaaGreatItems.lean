/- What the specification's cutting of a list's body answers, for every text: the items lie in new memory. -/
import Derived.Test.YtlefpbgnkebmdaaGreatNext
import Derived.Test.YtlefpbgnkebmdaaGreatFitsW
namespace Go.Proofs.YtlefpbgnkebmdaaGreat
open Go.RowKit
set_option linter.unusedVariables false

theorem infoV : (Tryz.prog.info? 77).map (fun i => (i.zero, i.size, i.bytes)) = some (some (.agg #[.int .i64 0, .int .i64 0, .string em]), 3, 32) := by kernel_rfl
def row (v : Val) : List Value := [.int .i64 v.k, .int .i64 v.n, .string v.t]
def flat (l : List Val) : List Value := l.flatMap row
theorem flat_snoc (l : List Val) (v : Val) : flat (l ++ [v]) = flat l ++ row v := by unfold flat; simp

theorem owns_below {w w' : World} {base : Nat} {e : TypeId} {size : Nat} {v : Value} {n : Nat} {xs : List Value} (h : w.ownsRow base e size v n xs) (hb : Below w.heap.size w w') : w'.ownsRow base e size v n xs := by
  obtain ⟨h1, h2⟩ := h
  refine ⟨h1, ?_⟩
  rcases h2 with h2 | ⟨g, cap, cur, hv, hg, hh, r⟩
  · exact .inl h2
  · refine .inr ⟨g, cap, cur, hv, hg, ?_, r⟩
    have hlt : g < w.heap.size := by
      rcases Nat.lt_or_ge g w.heap.size with h | h
      · exact h
      · rw [Array.getElem?_eq_none h] at hh; cases hh
    rw [hb.block g hlt]; exact hh
theorem owns_block {w : World} {base : Nat} {e : TypeId} {size : Nat} {v : Value} {n : Nat} {xs : List Value} (h : w.ownsRow base e size v n xs) : ∀ k, v.ownBlock = some k → base ≤ k :=
  fun k hk => (h.lt k hk).1

theorem owns_shape {w : World} {base : Nat} {e : TypeId} {size : Nat} {v : Value} {n : Nat} {xs : List Value} (h : w.ownsRow base e size v n xs) (hv : v ≠ .slice none 0 0) : ∃ g cap, v = .slice (some ⟨g, 0, none⟩) n cap := by
  obtain ⟨h1, h2⟩ := h
  rcases h2 with h2 | ⟨g, cap, cur, hv, r⟩
  · exact absurd h2.1 hv
  · exact ⟨g, cap, hv⟩
theorem owns_cell {w : World} {base : Nat} {e : TypeId} {size : Nat} {g n m cap : Nat} {xs : List Value} (h : w.ownsRow base e size (.slice (some ⟨g, 0, none⟩) m cap) n xs) (j : Nat) (u : Value) (hj : xs[j]? = some u) : w.cell? ⟨g, j, none⟩ = some u := by
  have := h.cells (g := g) rfl j u hj
  by_cases h0 : j = 0
  · subst h0; simpa [Addr.add] using this
  · simpa [Addr.add, h0] using this
theorem flat_get : ∀ (l : List Val) (i : Nat) (h : i < l.length), (flat l)[i * 3]? = some (.int .i64 l[i].k) ∧ (flat l)[i * 3 + 1]? = some (.int .i64 l[i].n) ∧ (flat l)[i * 3 + 2]? = some (.string l[i].t)
  | v :: l, 0, _ => ⟨rfl, rfl, rfl⟩
  | v :: l, i + 1, h => by
    have ih := flat_get l i (by simpa using h)
    have e : flat (v :: l) = row v ++ flat l := by unfold flat; simp
    rw [e, show (i + 1) * 3 = i * 3 + 3 by omega]
    have hl : (row v).length = 3 := rfl
    refine ⟨?_, ?_, ?_⟩
    · rw [List.getElem?_append_right (by omega), hl]; simpa using ih.1
    · rw [List.getElem?_append_right (by omega), hl, show i * 3 + 3 + 1 - 3 = i * 3 + 1 by omega]; simpa using ih.2.1
    · rw [List.getElem?_append_right (by omega), hl, show i * 3 + 3 + 2 - 3 = i * 3 + 2 by omega]; simpa using ih.2.2

end Go.Proofs.YtlefpbgnkebmdaaGreat
