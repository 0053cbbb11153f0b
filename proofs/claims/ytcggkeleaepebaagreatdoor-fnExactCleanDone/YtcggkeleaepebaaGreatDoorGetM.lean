/- What a path comes to in a value, said plainly. Nothing of the program is used here. -/
import Derived.Test.YtcggkeleaepebaaGreatDoorFindM
import Derived.Test.YtcggkeleaepebaaGreatDoorOKB
namespace Go.Proofs.YtcggkeleaepebaaGreatDoor
open Go.RowKit
set_option linter.unusedVariables false

def itms (v : Val) : List Val := (items v.t).getD []
def flds (v : Val) : List Fld := (fields v.t).getD []
/-- What comes behind a name of a document. -/
def docP (r : Val → List Val) (nm : ByteArray) (v : Val) : List Val :=
  match fieldV nm (flds v) with
  | none => []
  | some x => r x
/-- All values that names come to. -/
def getP : List ByteArray → Val → List Val
  | [], v => v :: (if v.k = 4 then itms v else [])
  | nm :: ws, v => if v.k = 5 then docP (getP ws) nm v else if v.k = 4 then (itms v).flatMap (fun it => if it.k = 5 then docP (getP ws) nm it else []) else []
theorem docP_none (r : Val → List Val) (nm : ByteArray) (v : Val) (h : fieldV nm (flds v) = none) : docP r nm v = [] := by unfold docP; rw [h]
theorem docP_some (r : Val → List Val) (nm : ByteArray) (v x : Val) (h : fieldV nm (flds v) = some x) : docP r nm v = r x := by unfold docP; rw [h]
theorem getP_end (v : Val) : getP [] v = v :: (if v.k = 4 then itms v else []) := rfl
theorem getP_doc (nm : ByteArray) (ws : List ByteArray) (v : Val) (h : v.k = 5) : getP (nm :: ws) v = docP (getP ws) nm v := by rw [getP, if_pos h]
theorem getP_list (nm : ByteArray) (ws : List ByteArray) (v : Val) (h : v.k = 4) : getP (nm :: ws) v = (itms v).flatMap (fun it => if it.k = 5 then docP (getP ws) nm it else []) := by rw [getP, if_neg (by omega), if_pos h]
theorem getP_none (nm : ByteArray) (ws : List ByteArray) (v : Val) (h5 : v.k ≠ 5) (h4 : v.k ≠ 4) : getP (nm :: ws) v = [] := by rw [getP, if_neg h5, if_neg h4]

theorem list_parts (d : Nat) (v : Val) (h : fits d v = true) (hk : v.k = 4) : v.t.size ≤ 300 ∧ items v.t = some (itms v) ∧ (itms v).length ≤ 300 ∧ ∃ d', d = d' + 1 ∧ ∀ u ∈ itms v, fits d' u = true ∧ u.t.size ≤ 300 := by
  cases d with
  | zero => rw [fits, base_holder v (.inl hk)] at h; cases h
  | succ d =>
    rw [fits_list d v hk, Bool.and_eq_true, decide_eq_true_eq] at h
    obtain ⟨⟨_, hs⟩, hi⟩ := h
    cases hc : items v.t with
    | none => rw [hc] at hi; cases hi
    | some l =>
      have e : itms v = l := by unfold itms; rw [hc]; rfl
      rw [hc] at hi
      simp only [itemsAll, List.all_eq_true] at hi
      have hl := items_len v.t.size v.t l (Nat.le_refl _) hc
      rw [e]
      exact ⟨hs, rfl, by omega, d, rfl, fun u hu => ⟨hi u hu, by have := hl.2 u hu; omega⟩⟩
theorem doc_parts (d : Nat) (v : Val) (h : fits d v = true) (hk : v.k = 5) : v.t.size ≤ 300 ∧ fields v.t = some (flds v) ∧ (flds v).length ≤ 300 ∧ Rise (flds v) ∧ ∃ d', d = d' + 1 ∧ (∀ f ∈ flds v, fits d' f.v = true ∧ f.v.t.size ≤ 300 ∧ f.name.size ≤ 300) ∧ riseAll (fits d') em (flds v) = true := by
  cases d with
  | zero => rw [fits, base_holder v (.inr hk)] at h; cases h
  | succ d =>
    rw [fits_doc d v hk, Bool.and_eq_true, decide_eq_true_eq] at h
    obtain ⟨⟨_, hs⟩, hi⟩ := h
    cases hc : fields v.t with
    | none => rw [hc] at hi; cases hi
    | some l =>
      have e : flds v = l := by unfold flds; rw [hc]; rfl
      rw [hc] at hi
      simp only [fieldsAll] at hi
      have hl := fields_len v.t.size v.t l (Nat.le_refl _) hc
      rw [e]
      exact ⟨hs, rfl, by omega, rise_of _ l em hi, d, rfl, fun f hf => ⟨(riseAll_all _ l em hi f hf).1, by have := hl.2 f hf; omega, by have := hl.2 f hf; omega⟩, hi⟩
theorem fieldV_mem (nm : ByteArray) (x : Val) : ∀ l : List Fld, fieldV nm l = some x → ∃ f ∈ l, f.v = x
  | [], h => by simp [fieldV] at h
  | f :: r, h => by
    rw [fieldV] at h
    split at h
    · injection h with h; exact ⟨f, by simp, h⟩
    · obtain ⟨g, hg, e⟩ := fieldV_mem nm x r h; exact ⟨g, by simp [hg], e⟩

theorem cutT_sum {s a b : ByteArray} {wd : Nat} (h : cutT s wd = some (a, b)) : a.size + b.size + wd = s.size := by
  unfold cutT at h
  split at h
  · cases h
  · split at h
    · cases h
    · injection h with h; injection h with h1 h2; subst h1; subst h2
      simp; omega
theorem cutV_sum {s b : ByteArray} {v : Val} (h : cutV s = some (v, b)) : v.t.size + b.size < s.size := by
  unfold cutV at h
  split at h
  · cases h
  · rename_i hz
    have hr : ∀ {c : Nat} {r b : ByteArray} {v : Val}, cutR c r = some (v, b) → v.t.size + b.size ≤ r.size := by
      intro c r b v h
      unfold cutR at h
      split at h
      · injection h with h; injection h with h1 h2; subst h1; subst h2; have e0 : em.size = 0 := rfl; simp; omega
      · split at h
        · split at h
          · cases h
          · injection h with h; injection h with h1 h2; subst h1; subst h2; have e0 : em.size = 0 := rfl; simp; omega
        · split at h
          · split at h
            · cases h
            · split at h
              · cases h
              · injection h with h; injection h with h1 h2; subst h1; subst h2; have e0 : em.size = 0 := rfl; simp; omega
          · split at h
            · cases hc : cutT r 2 with
              | none => rw [hc] at h; cases h
              | some p => rw [hc] at h; injection h with h; injection h with h1 h2; subst h1; subst h2
                          have := cutT_sum (a := p.1) (b := p.2) hc; show p.1.size + p.2.size ≤ _; omega
            · cases h
    have := hr h
    simp at this
    omega
theorem items_sum : ∀ (m : Nat) (t : ByteArray) (l : List Val), t.size ≤ m → items t = some l → (l.map (fun v => v.t.size)).sum ≤ t.size
  | 0, t, l, hm, h => by
    rw [items_nil (by omega)] at h; injection h with h; subst h; simp
  | m + 1, t, l, hm, h => by
    by_cases hz : t.size = 0
    · rw [items_nil hz] at h; injection h with h; subst h; simp
    · cases hc : cutV t with
      | none => rw [items_none hz hc] at h; cases h
      | some p =>
        obtain ⟨v, r⟩ := p
        have hsum := cutV_sum hc
        rw [items_cons hc] at h
        cases hr : items r with
        | none => rw [hr] at h; cases h
        | some l2 =>
          rw [hr] at h; injection h with h; subst h
          have ih := items_sum m r l2 (by omega) hr
          show ((v :: l2).map (fun v => v.t.size)).sum ≤ _
          rw [List.map_cons, List.sum_cons]; omega
theorem fields_lt : ∀ (m : Nat) (t : ByteArray) (l : List Fld), t.size ≤ m → fields t = some l → ∀ f ∈ l, f.v.t.size < t.size
  | 0, t, l, hm, h => by
    rw [fields_nil (by omega)] at h; injection h with h; subst h; intro f hf; simp at hf
  | m + 1, t, l, hm, h => by
    by_cases hz : t.size = 0
    · rw [fields_nil hz] at h; injection h with h; subst h; intro f hf; simp at hf
    · cases hc : cutF t with
      | none => rw [fields_none hz hc] at h; cases h
      | some p =>
        obtain ⟨f, r⟩ := p
        have hs := cutF_size hc
        rw [fields_cons hc] at h
        cases hr : fields r with
        | none => rw [hr] at h; cases h
        | some l2 =>
          rw [hr] at h; injection h with h; subst h
          have ih := fields_lt m r l2 (by omega) hr
          intro g hg
          rcases List.mem_cons.mp hg with rfl | hg
          · exact hs.2.2
          · have := ih g hg; omega
theorem flds_lt (v : Val) (f : Fld) (hf : f ∈ flds v) : f.v.t.size < v.t.size := by
  unfold flds at hf
  cases hc : fields v.t with
  | none => rw [hc] at hf; simp at hf
  | some l => rw [hc] at hf; exact fields_lt v.t.size v.t l (Nat.le_refl _) hc f hf
theorem itms_sum (v : Val) : ((itms v).map (fun u => u.t.size)).sum ≤ v.t.size := by
  unfold itms
  cases hc : items v.t with
  | none => simp
  | some l => exact items_sum v.t.size v.t l (Nat.le_refl _) hc
theorem itms_len (v : Val) : (itms v).length ≤ v.t.size := by
  unfold itms
  cases hc : items v.t with
  | none => simp
  | some l => exact (items_len v.t.size v.t l (Nat.le_refl _) hc).1
theorem docP_len (r : Val → List Val) (hr : ∀ x, (r x).length ≤ 1 + x.t.size) (nm : ByteArray) (v : Val) : (docP r nm v).length ≤ v.t.size := by
  cases h : fieldV nm (flds v) with
  | none => rw [docP_none r nm v h]; simp
  | some x =>
    rw [docP_some r nm v x h]
    obtain ⟨f, hf, rfl⟩ := fieldV_mem nm x _ h
    have := flds_lt v f hf
    have := hr f.v
    omega
theorem flat_len_le {f : Val → List Val} : ∀ l : List Val, (∀ u, (f u).length ≤ u.t.size) → (l.flatMap f).length ≤ (l.map (fun u => u.t.size)).sum
  | [], _ => by simp
  | u :: l, h => by
    have ih := flat_len_le l h
    have := h u
    rw [List.flatMap_cons, List.length_append, List.map_cons, List.sum_cons]; omega
theorem getP_len : ∀ (ws : List ByteArray) (v : Val), (getP ws v).length ≤ 1 + v.t.size
  | [], v => by
    rw [getP_end]
    have := itms_len v
    split <;> simp <;> omega
  | nm :: ws, v => by
    have ih := getP_len ws
    by_cases h5 : v.k = 5
    · rw [getP_doc nm ws v h5]
      have := docP_len (getP ws) ih nm v
      omega
    · by_cases h4 : v.k = 4
      · rw [getP_list nm ws v h4]
        have h1 := flat_len_le (f := fun it => if it.k = 5 then docP (getP ws) nm it else []) (itms v) (fun u => by
          show (if u.k = 5 then docP (getP ws) nm u else []).length ≤ _
          split
          · exact docP_len (getP ws) ih nm u
          · simp)
        have := itms_sum v
        omega
      · rw [getP_none nm ws v h5 h4]; simp

/-- The values that a row holds, cell by cell. -/
theorem flat_at (l : List Val) (j : Nat) (u : Value) (h : (flat l)[j]? = some u) : ∃ i, ∃ hi : i < l.length, (j = i * 3 ∧ u = .int .i64 l[i].k) ∨ (j = i * 3 + 1 ∧ u = .int .i64 l[i].n) ∨ (j = i * 3 + 2 ∧ u = .string l[i].t) := by
  have hlen : (flat l).length = l.length * 3 := by
    clear h
    induction l with
    | nil => rfl
    | cons v l ih => unfold flat at ih ⊢; rw [List.flatMap_cons, List.length_append, ih, List.length_cons]; simp [row]; omega
  have hj : j < l.length * 3 := by
    rcases Nat.lt_or_ge j (l.length * 3) with h1 | h1
    · exact h1
    · rw [List.getElem?_eq_none (by omega)] at h; cases h
  have hi : j / 3 < l.length := by omega
  obtain ⟨f0, f1, f2⟩ := flat_get l (j / 3) hi
  refine ⟨j / 3, hi, ?_⟩
  rcases (show j = j / 3 * 3 ∨ j = j / 3 * 3 + 1 ∨ j = j / 3 * 3 + 2 by omega) with e | e | e
  · left; refine ⟨e, ?_⟩; rw [← e] at f0; rw [f0] at h; exact (Option.some.inj h).symm
  · right; left; refine ⟨e, ?_⟩; rw [← e] at f1; rw [f1] at h; exact (Option.some.inj h).symm
  · right; right; refine ⟨e, ?_⟩; rw [← e] at f2; rw [f2] at h; exact (Option.some.inj h).symm

end Go.Proofs.YtcggkeleaepebaaGreatDoor
