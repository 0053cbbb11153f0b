/- What the specification's test of a value answers for lists. -/
import Derived.Test.YtlefpbgnkebmdaaGreatOKA
namespace Go.Proofs.YtlefpbgnkebmdaaGreat
open Go.RowKit
set_option linter.unusedVariables false

theorem items_len : ∀ (m : Nat) (t : ByteArray) (l : List Val), t.size ≤ m → items t = some l → l.length ≤ t.size ∧ ∀ v ∈ l, v.t.size ≤ t.size
  | m, t, l, hm, h => by
    by_cases hz : t.size = 0
    · rw [items_nil hz] at h; injection h with h; subst h; simp
    · cases hc : cutV t with
      | none => rw [items_none hz hc] at h; cases h
      | some p =>
        obtain ⟨v, r⟩ := p
        have hs := cutV_size hc
        rw [items_cons hc] at h
        cases hi : items r with
        | none => rw [hi] at h; cases h
        | some l' =>
          rw [hi] at h; injection h with h; subst h
          match m, hm with
          | 0, hm => omega
          | m + 1, hm =>
            have ih := items_len m r l' (by omega) hi
            refine ⟨by simp; omega, ?_⟩
            intro u hu
            rcases List.mem_cons.mp hu with rfl | hu
            · omega
            · have := ih.2 u hu; omega
theorem fields_len : ∀ (m : Nat) (t : ByteArray) (l : List Fld), t.size ≤ m → fields t = some l → l.length ≤ t.size ∧ ∀ f ∈ l, f.name.size ≤ t.size ∧ f.v.t.size ≤ t.size
  | m, t, l, hm, h => by
    by_cases hz : t.size = 0
    · rw [fields_nil hz] at h; injection h with h; subst h; simp
    · cases hc : cutF t with
      | none => rw [fields_none hz hc] at h; cases h
      | some p =>
        obtain ⟨v, r⟩ := p
        have hs := cutF_size hc
        rw [fields_cons hc] at h
        cases hi : fields r with
        | none => rw [hi] at h; cases h
        | some l' =>
          rw [hi] at h; injection h with h; subst h
          match m, hm with
          | 0, hm => omega
          | m + 1, hm =>
            have ih := fields_len m r l' (by omega) hi
            refine ⟨by simp; omega, ?_⟩
            intro u hu
            rcases List.mem_cons.mp hu with rfl | hu
            · omega
            · have := ih.2 u hu; omega
theorem all_take_succ {α : Type} (p : α → Bool) (l : List α) (k : Nat) (h : k < l.length) (ht : (l.take k).all p = true) : (l.take (k + 1)).all p = p l[k] := by
  rw [List.take_succ_eq_append_getElem h, List.all_append, ht]; simp
theorem all_false {α : Type} (p : α → Bool) (l : List α) (k : Nat) (h : k < l.length) (hf : p l[k] = false) : l.all p = false := by
  rw [List.all_eq_false]; exact ⟨l[k], List.getElem_mem _, by simp [hf]⟩

end Go.Proofs.YtlefpbgnkebmdaaGreat
