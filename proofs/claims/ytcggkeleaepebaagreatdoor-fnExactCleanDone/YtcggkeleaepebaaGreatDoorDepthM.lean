/- How deep a value is, said plainly. -/
import Derived.Test.YtcggkeleaepebaaGreatDoorIn
namespace Go.Proofs.YtcggkeleaepebaaGreatDoor
open Go.RowKit
set_option linter.unusedVariables false

def dmax (p : Val → Int) (l : List Val) : Int := l.foldl (fun n v => max n (p v)) 0
theorem dmax_snoc (p : Val → Int) (l : List Val) (v : Val) : dmax p (l ++ [v]) = max (dmax p l) (p v) := by unfold dmax; simp
theorem dmax_take (p : Val → Int) (l : List Val) (k : Nat) (h : k < l.length) : dmax p (l.take (k + 1)) = max (dmax p (l.take k)) (p l[k]) := by
  rw [List.take_succ_eq_append_getElem h, dmax_snoc]
def dF (p : Val → Int) (l : List Fld) : Int := dmax p (l.map Fld.v)
theorem dmax_takeF (p : Val → Int) (l : List Fld) (k : Nat) (h : k < l.length) : dF p (l.take (k + 1)) = max (dF p (l.take k)) (p l[k].v) := by
  unfold dF
  rw [List.take_succ_eq_append_getElem h, List.map_append]; exact dmax_snoc _ _ _
theorem dmax_bd (p : Val → Int) (B : Int) (hB : 0 ≤ B) (hp : ∀ v, 0 ≤ p v ∧ p v ≤ B) (l : List Val) : 0 ≤ dmax p l ∧ dmax p l ≤ B := by
  suffices h : ∀ (l : List Val) (n : Int), 0 ≤ n → n ≤ B → 0 ≤ l.foldl (fun n v => max n (p v)) n ∧ l.foldl (fun n v => max n (p v)) n ≤ B by
    exact h l 0 (by omega) hB
  intro l
  induction l with
  | nil => intro n h0 h1; exact ⟨h0, h1⟩
  | cons v l ih => intro n h0 h1; have := hp v; exact ih (max n (p v)) (by omega) (by omega)
theorem dF_bd (p : Val → Int) (B : Int) (hB : 0 ≤ B) (hp : ∀ v, 0 ≤ p v ∧ p v ≤ B) (l : List Fld) : 0 ≤ dF p l ∧ dF p l ≤ B := dmax_bd p B hB hp _
def depthV : Nat → Val → Int
  | 0, _ => 0
  | d + 1, v =>
    if v.k = 4 then dmax (depthV d) ((items v.t).getD []) + 1
    else if v.k = 5 then dmax (depthV d) (((fields v.t).getD []).map Fld.v) + 1
    else 0
theorem depthV_bd : ∀ (d : Nat) (v : Val), 0 ≤ depthV d v ∧ depthV d v ≤ d
  | 0, v => by simp [depthV]
  | d + 1, v => by
    have h := dmax_bd (depthV d) d (by omega) (depthV_bd d)
    unfold depthV
    split
    · have := h ((items v.t).getD []); omega
    · split
      · have := h (((fields v.t).getD []).map Fld.v); omega
      · omega
theorem depthV_plain (d : Nat) (v : Val) (h4 : v.k ≠ 4) (h5 : v.k ≠ 5) : depthV d v = 0 := by
  cases d with
  | zero => rfl
  | succ d => unfold depthV; rw [if_neg h4, if_neg h5]
theorem depthV_list (d : Nat) (v : Val) (l : List Val) (h : v.k = 4) (hi : items v.t = some l) : depthV (d + 1) v = dmax (depthV d) l + 1 := by
  rw [depthV, if_pos h, hi]; rfl
theorem depthV_doc (d : Nat) (v : Val) (l : List Fld) (h : v.k = 5) (hi : fields v.t = some l) : depthV (d + 1) v = dF (depthV d) l + 1 := by
  rw [depthV, if_neg (by omega), if_pos h, hi]; rfl

theorem fits_items {d : Nat} {v : Val} (h : v.k = 4) (hf : fits d v = true) : ∃ e l, d = e + 1 ∧ items v.t = some l ∧ v.n = 0 ∧ v.t.size ≤ 300 ∧ ∀ u ∈ l, fits e u = true ∧ u.t.size ≤ v.t.size := by
  cases d with
  | zero => rw [show fits 0 v = base v from rfl, base_holder v (.inl h)] at hf; cases hf
  | succ e =>
    rw [fits_list e v h] at hf
    rw [Bool.and_eq_true, decide_eq_true_eq] at hf
    cases hi : items v.t with
    | none => rw [hi] at hf; cases hf.2
    | some l =>
      rw [hi] at hf
      refine ⟨e, l, rfl, rfl, hf.1.1, hf.1.2, fun u hu => ⟨?_, (items_len _ _ _ (Nat.le_refl _) hi).2 u hu⟩⟩
      have := hf.2
      simp only [itemsAll, List.all_eq_true] at this
      exact this u hu
theorem rise_all (p : Val → Bool) : ∀ (l : List Fld) (m : ByteArray), riseAll p m l = true → ∀ f ∈ l, shortB f.name = true ∧ p f.v = true
  | [], _, _, f, hf => by cases hf
  | g :: l, m, h, f, hf => by
    simp only [riseAll, Bool.and_eq_true] at h
    rcases List.mem_cons.mp hf with rfl | hf
    · exact ⟨h.1.1.1, h.1.2⟩
    · exact rise_all p l _ h.2 f hf
theorem fits_fields {d : Nat} {v : Val} (h : v.k = 5) (hf : fits d v = true) : ∃ e l, d = e + 1 ∧ fields v.t = some l ∧ v.n = 0 ∧ v.t.size ≤ 300 ∧ riseAll (fits e) em l = true ∧ ∀ f ∈ l, fits e f.v = true ∧ f.v.t.size ≤ v.t.size ∧ f.name.size ≤ v.t.size := by
  cases d with
  | zero => rw [show fits 0 v = base v from rfl, base_holder v (.inr h)] at hf; cases hf
  | succ e =>
    rw [fits_doc e v h] at hf
    rw [Bool.and_eq_true, decide_eq_true_eq] at hf
    cases hi : fields v.t with
    | none => rw [hi] at hf; cases hf.2
    | some l =>
      rw [hi] at hf
      have hr : riseAll (fits e) em l = true := hf.2
      refine ⟨e, l, rfl, rfl, hf.1.1, hf.1.2, hr, fun f hf' => ?_⟩
      have := (fields_len _ _ _ (Nat.le_refl _) hi).2 f hf'
      exact ⟨(rise_all _ _ _ hr f hf').2, this.2, this.1⟩

end Go.Proofs.YtcggkeleaepebaaGreatDoor
