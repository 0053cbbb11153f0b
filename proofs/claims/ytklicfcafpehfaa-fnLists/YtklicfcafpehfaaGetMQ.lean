/- What a path comes to in a value, said plainly. Nothing of the program is used here. -/
import Derived.Test.YtklicfcafpehfaaFindM
import Derived.Test.YtklicfcafpehfaaOKB
import Derived.Test.YtklicfcafpehfaaFits
import Derived.Lib.IndexLaws
import Derived.Lib.Split
import Derived.Test.YtklicfcafpehfaaIn
import Derived.Test.YtklicfcafpehfaaRowF
import Derived.Test.YtklicfcafpehfaaLawB
import Derived.Test.YtklicfcafpehfaaEncI
import Derived.Lib.AppendStr
import Derived.Lib.OthersKept
import Derived.Lib.BufferKept
import Derived.Maps.AppendAt
namespace Go.Proofs.Ytklicfcafpehfaa
open Go.RowKit
set_option linter.unusedVariables false

def itms (v : Val) : List Val := (items v.t).getD []
def flds (v : Val) : List Fld := (fields v.t).getD []
/-- What comes behind a name of a document. -/
def docP (r : Val → List Val) (nm : ByteArray) (v : Val) : List Val :=
  match fieldV nm (flds v) with
  | none => []
  | some x => r x
/-- All values that names come to. -/
def getP : List ByteArray → Val → List Val
  | [], v => v :: (if v.k = 4 then itms v else [])
  | nm :: ws, v => if v.k = 5 then docP (getP ws) nm v else if v.k = 4 then (itms v).flatMap (fun it => if it.k = 5 then docP (getP ws) nm it else []) else []
theorem docP_none (r : Val → List Val) (nm : ByteArray) (v : Val) (h : fieldV nm (flds v) = none) : docP r nm v = [] := by unfold docP; rw [h]
theorem docP_some (r : Val → List Val) (nm : ByteArray) (v x : Val) (h : fieldV nm (flds v) = some x) : docP r nm v = r x := by unfold docP; rw [h]
theorem getP_end (v : Val) : getP [] v = v :: (if v.k = 4 then itms v else []) := rfl
theorem getP_doc (nm : ByteArray) (ws : List ByteArray) (v : Val) (h : v.k = 5) : getP (nm :: ws) v = docP (getP ws) nm v := by rw [getP, if_pos h]
theorem getP_list (nm : ByteArray) (ws : List ByteArray) (v : Val) (h : v.k = 4) : getP (nm :: ws) v = (itms v).flatMap (fun it => if it.k = 5 then docP (getP ws) nm it else []) := by rw [getP, if_neg (by omega), if_pos h]
theorem getP_none (nm : ByteArray) (ws : List ByteArray) (v : Val) (h5 : v.k ≠ 5) (h4 : v.k ≠ 4) : getP (nm :: ws) v = [] := by rw [getP, if_neg h5, if_neg h4]

theorem list_parts (d : Nat) (v : Val) (h : fits d v = true) (hk : v.k = 4) : v.t.size ≤ 300 ∧ items v.t = some (itms v) ∧ (itms v).length ≤ 300 ∧ ∃ d', d = d' + 1 ∧ ∀ u ∈ itms v, fits d' u = true ∧ u.t.size ≤ 300 := by
  cases d with
  | zero => rw [fits, base_holder v (.inl hk)] at h; cases h
  | succ d =>
    rw [fits_list d v hk, Bool.and_eq_true, decide_eq_true_eq] at h
    obtain ⟨⟨_, hs⟩, hi⟩ := h
    cases hc : items v.t with
    | none => rw [hc] at hi; cases hi
    | some l =>
      have e : itms v = l := by unfold itms; rw [hc]; rfl
      rw [hc] at hi
      simp only [itemsAll, List.all_eq_true] at hi
      have hl := items_len v.t.size v.t l (Nat.le_refl _) hc
      rw [e]
      exact ⟨hs, rfl, by omega, d, rfl, fun u hu => ⟨hi u hu, by have := hl.2 u hu; omega⟩⟩
theorem doc_parts (d : Nat) (v : Val) (h : fits d v = true) (hk : v.k = 5) : v.t.size ≤ 300 ∧ fields v.t = some (flds v) ∧ (flds v).length ≤ 300 ∧ Rise (flds v) ∧ ∃ d', d = d' + 1 ∧ (∀ f ∈ flds v, fits d' f.v = true ∧ f.v.t.size ≤ 300 ∧ f.name.size ≤ 300) ∧ riseAll (fits d') em (flds v) = true := by
  cases d with
  | zero => rw [fits, base_holder v (.inr hk)] at h; cases h
  | succ d =>
    rw [fits_doc d v hk, Bool.and_eq_true, decide_eq_true_eq] at h
    obtain ⟨⟨_, hs⟩, hi⟩ := h
    cases hc : fields v.t with
    | none => rw [hc] at hi; cases hi
    | some l =>
      have e : flds v = l := by unfold flds; rw [hc]; rfl
      rw [hc] at hi
      simp only [fieldsAll] at hi
      have hl := fields_len v.t.size v.t l (Nat.le_refl _) hc
      rw [e]
      exact ⟨hs, rfl, by omega, rise_of _ l em hi, d, rfl, fun f hf => ⟨(riseAll_all _ l em hi f hf).1, by have := hl.2 f hf; omega, by have := hl.2 f hf; omega⟩, hi⟩
theorem fieldV_mem (nm : ByteArray) (x : Val) : ∀ l : List Fld, fieldV nm l = some x → ∃ f ∈ l, f.v = x
  | [], h => by simp [fieldV] at h
  | f :: r, h => by
    rw [fieldV] at h
    split at h
    · injection h with h; exact ⟨f, by simp, h⟩
    · obtain ⟨g, hg, e⟩ := fieldV_mem nm x r h; exact ⟨g, by simp [hg], e⟩

theorem cutT_sum {s a b : ByteArray} {wd : Nat} (h : cutT s wd = some (a, b)) : a.size + b.size + wd = s.size := by
  unfold cutT at h
  split at h
  · cases h
  · split at h
    · cases h
    · injection h with h; injection h with h1 h2; subst h1; subst h2
      simp; omega
theorem cutV_sum {s b : ByteArray} {v : Val} (h : cutV s = some (v, b)) : v.t.size + b.size < s.size := by
  unfold cutV at h
  split at h
  · cases h
  · rename_i hz
    have hr : ∀ {c : Nat} {r b : ByteArray} {v : Val}, cutR c r = some (v, b) → v.t.size + b.size ≤ r.size := by
      intro c r b v h
      unfold cutR at h
      split at h
      · injection h with h; injection h with h1 h2; subst h1; subst h2; have e0 : em.size = 0 := rfl; simp; omega
      · split at h
        · split at h
          · cases h
          · injection h with h; injection h with h1 h2; subst h1; subst h2; have e0 : em.size = 0 := rfl; simp; omega
        · split at h
          · split at h
            · cases h
            · split at h
              · cases h
              · injection h with h; injection h with h1 h2; subst h1; subst h2; have e0 : em.size = 0 := rfl; simp; omega
          · split at h
            · cases hc : cutT r 2 with
              | none => rw [hc] at h; cases h
              | some p => rw [hc] at h; injection h with h; injection h with h1 h2; subst h1; subst h2
                          have := cutT_sum (a := p.1) (b := p.2) hc; show p.1.size + p.2.size ≤ _; omega
            · cases h
    have := hr h
    simp at this
    omega
theorem items_sum : ∀ (m : Nat) (t : ByteArray) (l : List Val), t.size ≤ m → items t = some l → (l.map (fun v => v.t.size)).sum ≤ t.size
  | 0, t, l, hm, h => by
    rw [items_nil (by omega)] at h; injection h with h; subst h; simp
  | m + 1, t, l, hm, h => by
    by_cases hz : t.size = 0
    · rw [items_nil hz] at h; injection h with h; subst h; simp
    · cases hc : cutV t with
      | none => rw [items_none hz hc] at h; cases h
      | some p =>
        obtain ⟨v, r⟩ := p
        have hsum := cutV_sum hc
        rw [items_cons hc] at h
        cases hr : items r with
        | none => rw [hr] at h; cases h
        | some l2 =>
          rw [hr] at h; injection h with h; subst h
          have ih := items_sum m r l2 (by omega) hr
          show ((v :: l2).map (fun v => v.t.size)).sum ≤ _
          rw [List.map_cons, List.sum_cons]; omega
theorem fields_lt : ∀ (m : Nat) (t : ByteArray) (l : List Fld), t.size ≤ m → fields t = some l → ∀ f ∈ l, f.v.t.size < t.size
  | 0, t, l, hm, h => by
    rw [fields_nil (by omega)] at h; injection h with h; subst h; intro f hf; simp at hf
  | m + 1, t, l, hm, h => by
    by_cases hz : t.size = 0
    · rw [fields_nil hz] at h; injection h with h; subst h; intro f hf; simp at hf
    · cases hc : cutF t with
      | none => rw [fields_none hz hc] at h; cases h
      | some p =>
        obtain ⟨f, r⟩ := p
        have hs := cutF_size hc
        rw [fields_cons hc] at h
        cases hr : fields r with
        | none => rw [hr] at h; cases h
        | some l2 =>
          rw [hr] at h; injection h with h; subst h
          have ih := fields_lt m r l2 (by omega) hr
          intro g hg
          rcases List.mem_cons.mp hg with rfl | hg
          · exact hs.2.2
          · have := ih g hg; omega
theorem flds_lt (v : Val) (f : Fld) (hf : f ∈ flds v) : f.v.t.size < v.t.size := by
  unfold flds at hf
  cases hc : fields v.t with
  | none => rw [hc] at hf; simp at hf
  | some l => rw [hc] at hf; exact fields_lt v.t.size v.t l (Nat.le_refl _) hc f hf
theorem itms_sum (v : Val) : ((itms v).map (fun u => u.t.size)).sum ≤ v.t.size := by
  unfold itms
  cases hc : items v.t with
  | none => simp
  | some l => exact items_sum v.t.size v.t l (Nat.le_refl _) hc
theorem itms_len (v : Val) : (itms v).length ≤ v.t.size := by
  unfold itms
  cases hc : items v.t with
  | none => simp
  | some l => exact (items_len v.t.size v.t l (Nat.le_refl _) hc).1
theorem docP_len (r : Val → List Val) (hr : ∀ x, (r x).length ≤ 1 + x.t.size) (nm : ByteArray) (v : Val) : (docP r nm v).length ≤ v.t.size := by
  cases h : fieldV nm (flds v) with
  | none => rw [docP_none r nm v h]; simp
  | some x =>
    rw [docP_some r nm v x h]
    obtain ⟨f, hf, rfl⟩ := fieldV_mem nm x _ h
    have := flds_lt v f hf
    have := hr f.v
    omega
theorem flat_len_le {f : Val → List Val} : ∀ l : List Val, (∀ u, (f u).length ≤ u.t.size) → (l.flatMap f).length ≤ (l.map (fun u => u.t.size)).sum
  | [], _ => by simp
  | u :: l, h => by
    have ih := flat_len_le l h
    have := h u
    rw [List.flatMap_cons, List.length_append, List.map_cons, List.sum_cons]; omega
theorem getP_len : ∀ (ws : List ByteArray) (v : Val), (getP ws v).length ≤ 1 + v.t.size
  | [], v => by
    rw [getP_end]
    have := itms_len v
    split <;> simp <;> omega
  | nm :: ws, v => by
    have ih := getP_len ws
    by_cases h5 : v.k = 5
    · rw [getP_doc nm ws v h5]
      have := docP_len (getP ws) ih nm v
      omega
    · by_cases h4 : v.k = 4
      · rw [getP_list nm ws v h4]
        have h1 := flat_len_le (f := fun it => if it.k = 5 then docP (getP ws) nm it else []) (itms v) (fun u => by
          show (if u.k = 5 then docP (getP ws) nm u else []).length ≤ _
          split
          · exact docP_len (getP ws) ih nm u
          · simp)
        have := itms_sum v
        omega
      · rw [getP_none nm ws v h5 h4]; simp

/-- The values that a row holds, cell by cell. -/
theorem flat_at (l : List Val) (j : Nat) (u : Value) (h : (flat l)[j]? = some u) : ∃ i, ∃ hi : i < l.length, (j = i * 3 ∧ u = .int .i64 l[i].k) ∨ (j = i * 3 + 1 ∧ u = .int .i64 l[i].n) ∨ (j = i * 3 + 2 ∧ u = .string l[i].t) := by
  have hlen : (flat l).length = l.length * 3 := by
    clear h
    induction l with
    | nil => rfl
    | cons v l ih => unfold flat at ih ⊢; rw [List.flatMap_cons, List.length_append, ih, List.length_cons]; simp [row]; omega
  have hj : j < l.length * 3 := by
    rcases Nat.lt_or_ge j (l.length * 3) with h1 | h1
    · exact h1
    · rw [List.getElem?_eq_none (by omega)] at h; cases h
  have hi : j / 3 < l.length := by omega
  obtain ⟨f0, f1, f2⟩ := flat_get l (j / 3) hi
  refine ⟨j / 3, hi, ?_⟩
  rcases (show j = j / 3 * 3 ∨ j = j / 3 * 3 + 1 ∨ j = j / 3 * 3 + 2 by omega) with e | e | e
  · left; refine ⟨e, ?_⟩; rw [← e] at f0; rw [f0] at h; exact (Option.some.inj h).symm
  · right; left; refine ⟨e, ?_⟩; rw [← e] at f1; rw [f1] at h; exact (Option.some.inj h).symm
  · right; right; refine ⟨e, ?_⟩; rw [← e] at f2; rw [f2] at h; exact (Option.some.inj h).symm

end Go.Proofs.Ytklicfcafpehfaa

/- How a text is parted at points, said plainly; nothing of the program is used here. -/
namespace Go.Proofs.Ytklicfcafpehfaa
open Go.RowKit
set_option linter.unusedVariables false

/-- The pieces of a list of bytes between those that are c. -/
def splitL (c : UInt8) : List UInt8 → List (List UInt8)
  | [] => [[]]
  | x :: r => if x = c then [] :: splitL c r else match splitL c r with
      | [] => [[x]]
      | p :: ps => (x :: p) :: ps
theorem splitL_none (c : UInt8) : ∀ l : List UInt8, (∀ x ∈ l, x ≠ c) → splitL c l = [l]
  | [], _ => rfl
  | x :: r, h => by
    rw [splitL, if_neg (h x (by simp)), splitL_none c r (fun y hy => h y (by simp [hy]))]
theorem splitL_at (c : UInt8) (r : List UInt8) : ∀ a : List UInt8, (∀ x ∈ a, x ≠ c) → splitL c (a ++ c :: r) = a :: splitL c r
  | [], _ => by rw [List.nil_append, splitL, if_pos rfl]
  | x :: a, h => by
    rw [List.cons_append, splitL, if_neg (h x (by simp)), splitL_at c r a (fun y hy => h y (by simp [hy]))]
theorem splitL_len (c : UInt8) : ∀ l : List UInt8, (splitL c l).length = l.count c + 1
  | [] => rfl
  | x :: r => by
    have ih := splitL_len c r
    rw [splitL]
    by_cases h : x = c
    · subst h; rw [if_pos rfl, List.length_cons, ih, List.count_cons_self]
    · rw [if_neg h, List.count_cons_of_ne h]
      cases hs : splitL c r with
      | nil => rw [hs] at ih; simp at ih
      | cons p ps => rw [hs] at ih; simpa using ih

def mkB (l : List UInt8) : ByteArray := ⟨l.toArray⟩
theorem mkB_of (s : ByteArray) : mkB s.data.toList = s := by cases s; simp [mkB]
theorem mkB_data (l : List UInt8) : (mkB l).data.toList = l := by simp [mkB]
/-- The pieces of a text between its points. -/
def pieces (s : ByteArray) : List ByteArray := (splitL 46 s.data.toList).map mkB
theorem pieces_len (s : ByteArray) : (pieces s).length = s.data.toList.count 46 + 1 := by unfold pieces; rw [List.length_map, splitL_len]
theorem pieces_len_le (s : ByteArray) : (pieces s).length ≤ s.size + 1 := by
  rw [pieces_len]
  have := List.count_le_length (a := (46 : UInt8)) (l := s.data.toList)
  have h2 := toList_length s
  omega
theorem byte_get (s : ByteArray) (k : Nat) (h : k < s.size) : s.data.toList[k]? = some s[k] := by
  rw [List.getElem?_eq_getElem (by rw [toList_length]; exact h)]; rfl
theorem pieces_none (s : ByteArray) (h : ∀ k (hk : k < s.size), s[k] ≠ 46) : pieces s = [s] := by
  unfold pieces
  rw [splitL_none 46 s.data.toList (fun x hx => by
    obtain ⟨k, hk, rfl⟩ := List.getElem_of_mem hx
    exact h k (by rw [toList_length] at hk; exact hk))]
  rw [List.map_cons, mkB_of]; rfl
theorem pieces_at (s : ByteArray) (i : Nat) (hi : i < s.size) (hc : s[i] = 46) (h : ∀ k (hk : k < s.size), k < i → s[k] ≠ 46) :
    pieces s = s.extract 0 i :: pieces (s.extract (i + 1) s.size) := by
  have hl : i < s.data.toList.length := by rw [toList_length]; exact hi
  have e : s.data.toList = s.data.toList.take i ++ 46 :: s.data.toList.drop (i + 1) := by
    conv => lhs; rw [← List.take_append_drop i s.data.toList, List.drop_eq_getElem_cons hl]
    rw [show s.data.toList[i] = s[i] from rfl, hc]
  have e2 : (s.extract (i + 1) s.size).data.toList = s.data.toList.drop (i + 1) := by
    rw [extract_list, List.take_of_length_le (by rw [List.length_drop, toList_length]; exact Nat.le_refl _)]
  unfold pieces
  rw [e2]
  conv => lhs; rw [e]
  rw [splitL_at 46 _ _ (fun x hx => by
    obtain ⟨k, hk, rfl⟩ := List.getElem_of_mem hx
    rw [List.length_take] at hk
    rw [List.getElem_take]
    exact h k (by omega) (by omega))]
  rw [List.map_cons]
  congr 1
  have e3 : (s.extract 0 i).data.toList = s.data.toList.take i := by rw [extract_list]; simp
  rw [← e3, mkB_of]
theorem ext_get (s : ByteArray) (a k : Nat) (h : k < (s.extract a s.size).size) : (s.extract a s.size)[k] = s[a + k]'(by simp at h; omega) := by
  simp [ByteArray.getElem_extract]
/-- The same, of what stands behind the place a. -/
theorem pieces_from (s : ByteArray) (a i : Nat) (hai : a ≤ i) (hi : i < s.size) (hc : s[i] = 46) (h : ∀ k (hk : k < s.size), a ≤ k → k < i → s[k] ≠ 46) :
    pieces (s.extract a s.size) = s.extract a i :: pieces (s.extract (i + 1) s.size) := by
  have hz : (s.extract a s.size).size = s.size - a := by simp
  have e := pieces_at (s.extract a s.size) (i - a) (by omega) (by rw [ext_get]; simpa [show a + (i - a) = i by omega] using hc)
    (fun k hk hlt => by rw [ext_get]; exact h (a + k) (by omega) (by omega) (by omega))
  rw [e, ByteArray.extract_extract, ByteArray.extract_extract, hz, show a + 0 = a from rfl, show min (a + (i - a)) s.size = i by omega, show a + (i - a + 1) = i + 1 by omega, show min (a + (s.size - a)) s.size = s.size by omega]
theorem pieces_rest (s : ByteArray) (a : Nat) (h : ∀ k (hk : k < s.size), a ≤ k → s[k] ≠ 46) : pieces (s.extract a s.size) = [s.extract a s.size] :=
  pieces_none _ (fun k hk => by rw [ext_get]; exact h (a + k) (by simp at hk; omega) (by omega))
/-- In the words of the library's search for a byte. -/
theorem pieces_miss (s : ByteArray) (h : Lib.indexByte s.data.toList 46 = -1) : pieces s = [s] :=
  pieces_none s (fun k hk e => by
    have := Lib.indexByte_none h k
    rw [byte_get s k hk, e] at this
    exact this rfl)
theorem pieces_hit (s : ByteArray) (i : Nat) (h : Lib.indexByte s.data.toList 46 = i) : i < s.size ∧ pieces s = s.extract 0 i :: pieces (s.extract (i + 1) s.size) := by
  obtain ⟨h1, h2⟩ := Lib.indexByte_some h
  have hi : i < s.size := by
    rcases Nat.lt_or_ge i s.size with h | h
    · exact h
    · rw [List.getElem?_eq_none (by rw [toList_length]; exact h)] at h1; cases h1
  refine ⟨hi, pieces_at s i hi ?_ ?_⟩
  · rw [byte_get s i hi] at h1; exact Option.some.inj h1
  · intro k hk hlt e
    have := h2 k hlt
    rw [byte_get s k hk, e] at this
    exact this rfl
theorem pieces_size (s p : ByteArray) (h : p ∈ pieces s) : p.size ≤ s.size := by
  suffices H : ∀ (c : UInt8) (l q : List UInt8), q ∈ splitL c l → q.length ≤ l.length by
    unfold pieces at h
    obtain ⟨q, hq, rfl⟩ := List.mem_map.mp h
    have := H _ _ _ hq
    rw [toList_length] at this
    have e : (mkB q).size = q.length := by rw [← toList_length, mkB_data]
    omega
  intro c l
  induction l with
  | nil => intro q hq; simp [splitL] at hq; simp [hq]
  | cons x r ih =>
    intro q hq
    rw [splitL] at hq
    split at hq
    · rcases List.mem_cons.mp hq with rfl | hq
      · simp
      · have := ih q hq; simp; omega
    · cases hs : splitL c r with
      | nil => rw [hs] at hq; simp at hq; subst hq; simp
      | cons p ps =>
        rw [hs] at hq ih
        rcases List.mem_cons.mp hq with rfl | hq
        · have := ih p (by simp); simp; omega
        · have := ih q (by simp [hq]); simp; omega
/-- Is a text a path: of at most fifty bytes, one to four short names, points between. -/
def pathB (s : ByteArray) : Bool := decide (s.size ≤ 50) && decide ((pieces s).length ≤ 4) && (pieces s).all shortB

end Go.Proofs.Ytklicfcafpehfaa

/- Bytes that are laid behind a row of the call's own, and the items and fields of a body, as values of other texts need them. -/
namespace Go.Proofs.Ytklicfcafpehfaa
open Go.RowKit
set_option linter.unusedVariables false

theorem mkB_size (l : List UInt8) : (mkB l).size = l.length := by rw [← toList_length, mkB_data]
theorem mkB_app (a b : List UInt8) : mkB a ++ mkB b = mkB (a ++ b) := by
  apply ba_ext
  rw [mkB_data]
  simp [mkB]
theorem items_sum1 : ∀ (m : Nat) (t : ByteArray) (l : List Val), t.size ≤ m → items t = some l → (l.map (fun v => 1 + v.t.size)).sum ≤ t.size
  | 0, t, l, hm, h => by
    rw [items_nil (by omega)] at h; injection h with h; subst h; simp
  | m + 1, t, l, hm, h => by
    by_cases hz : t.size = 0
    · rw [items_nil hz] at h; injection h with h; subst h; simp
    · cases hc : cutV t with
      | none => rw [items_none hz hc] at h; cases h
      | some p =>
        obtain ⟨v, r⟩ := p
        have hsum := cutV_sum hc
        rw [items_cons hc] at h
        cases hr : items r with
        | none => rw [hr] at h; cases h
        | some l2 =>
          rw [hr] at h; injection h with h; subst h
          have ih := items_sum1 m r l2 (by omega) hr
          show ((v :: l2).map (fun v => 1 + v.t.size)).sum ≤ _
          rw [List.map_cons, List.sum_cons]; omega
theorem cutF_sum {s b : ByteArray} {f : Fld} (h : cutF s = some (f, b)) : 2 + f.name.size + f.v.t.size + b.size ≤ s.size := by
  unfold cutF at h
  cases hc : cutT s 1 with
  | none => rw [hc] at h; cases h
  | some p =>
    rw [hc] at h
    have h1 := cutT_sum (a := p.1) (b := p.2) hc
    cases hv : cutV p.2 with
    | none => simp only [hv] at h; cases h
    | some q =>
      simp only [hv] at h; injection h with h; injection h with h2 h3; subst h2; subst h3
      have h4 := cutV_sum (v := q.1) (b := q.2) hv
      show 2 + p.1.size + q.1.t.size + q.2.size ≤ _
      omega
theorem fields_sum1 : ∀ (m : Nat) (t : ByteArray) (l : List Fld), t.size ≤ m → fields t = some l → (l.map (fun f => 2 + f.name.size + f.v.t.size)).sum ≤ t.size
  | 0, t, l, hm, h => by
    rw [fields_nil (by omega)] at h; injection h with h; subst h; simp
  | m + 1, t, l, hm, h => by
    by_cases hz : t.size = 0
    · rw [fields_nil hz] at h; injection h with h; subst h; simp
    · cases hc : cutF t with
      | none => rw [fields_none hz hc] at h; cases h
      | some p =>
        obtain ⟨f, r⟩ := p
        have hsum := cutF_sum hc
        have hsz := cutF_size hc
        rw [fields_cons hc] at h
        cases hr : fields r with
        | none => rw [hr] at h; cases h
        | some l2 =>
          rw [hr] at h; injection h with h; subst h
          have ih := fields_sum1 m r l2 (by omega) hr
          show ((f :: l2).map (fun f => 2 + f.name.size + f.v.t.size)).sum ≤ _
          rw [List.map_cons, List.sum_cons]; omega
theorem sum_take {α : Type} (g : α → Nat) : ∀ (l : List α) (k : Nat), ((l.take k).map g).sum ≤ (l.map g).sum
  | [], k => by simp
  | x :: r, 0 => by simp
  | x :: r, k + 1 => by
    have := sum_take g r k
    rw [List.take_succ_cons, List.map_cons, List.map_cons, List.sum_cons, List.sum_cons]; omega
abbrev Kept (w w' : World) : Prop := Lib.OthersKept 5 none w w'
theorem own_tag {w : World} {B n : Nat} {v : Value} {xs : List Value} (h : w.ownsRow B 5 1 v n xs) : ∀ g, v.ownBlock = some g → ∃ c fz, w.heap[g]? = some (.cells c 5 fz) := by
  intro g hg
  rcases h.2 with ⟨rfl, _⟩ | ⟨g', cap, cur, rfl, _, hh, _⟩
  · cases hg
  · simp [Value.ownBlock] at hg; subst hg; exact ⟨_, _, hh⟩
/-- One byte behind a row of the call's own. -/
theorem app_byte {ops : Array Oper} {rest : List Oper} {o : Oper} {a : Act} {Q : Exit → Act → World → Prop} {w : World} (hgd : o.guard = none) (s x : Operand)
    (ho : o.op = .call { callee := .builtin .append, args := #[s, x], argTypes := #[22, 22] }) (B n : Nat) (v : Value) (xs : List Value) (c : Int)
    (ad : Nat) (hs : a.eval s = v) (hx : a.eval x = .slice (some ⟨ad, 0, none⟩) 1 1) (had : ad = w.heap.size) (hown : w.ownsRow B 5 1 v n xs) (hB : B ≤ w.heap.size) (hlim : n ≤ 1000000)
    (h : ∀ v' w', w'.ownsRow B 5 1 v' (n + 1) (xs ++ [.int .u8 c]) → Below B w w' → Kept w w' → wpList Try.prog ops Q rest (a.put o.dst v') w') :
    wpList Try.prog ops Q (o :: rest) a (w.alloc (.cells #[.int .u8 c] 5)) := by
  subst had
  obtain ⟨i0, hi, hz0, hz1, hz2⟩ := info_parts infoB
  refine wpList_append_own _ hgd s x 22 ho B 5 i0 (.int .u8 0) 1 1 Try.underlying22 hi hz0 hz1 hz2 rfl (by decide) _ _ _ hs (hown.alloc _) ⟨w.heap.size, 0, none⟩ 1 1 [.int .u8 c] hx rfl (cell_one_new _ _ _) (by intro u hu; simp at hu; subst hu; rfl) (by unfold maxLen; omega) (by omega) (by simp; omega) ?_
  intro v' w' hown' hgrow _
  have ha : Below B w (w.alloc (.cells #[.int .u8 c] 5)) := (Below.refl _ _).alloc hB _
  refine h v' w' hown' (Below.grown ha hgrow (by simp; omega) (fun k hk => (hown.lt k hk).1)) ?_
  exact ((Lib.OthersKept.refl _ _ _).alloc _).grown hgrow (own_tag (hown.alloc _))
/-- A text behind a row of the call's own. -/
theorem app_str {ops : Array Oper} {rest : List Oper} {o : Oper} {a : Act} {Q : Exit → Act → World → Prop} {w : World} (hgd : o.guard = none) (s x : Operand)
    (ho : o.op = .call { callee := .builtin .append, args := #[s, x], argTypes := #[22, 9] }) (B n : Nat) (v : Value) (xs : List Value) (t : ByteArray)
    (hs : a.eval s = v) (hx : a.eval x = .string t) (hown : w.ownsRow B 5 1 v n xs) (hB : B ≤ w.heap.size) (hlim : n ≤ 1000000) (ht : t.size ≤ 1000000)
    (h : ∀ v' w', w'.ownsRow B 5 1 v' (n + t.size) (xs ++ Lib.byteCells t.data.toList) → Below B w w' → Kept w w' → wpList Try.prog ops Q rest (a.put o.dst v') w') :
    wpList Try.prog ops Q (o :: rest) a w := by
  obtain ⟨i0, hi, hz0, hz1, hz2⟩ := info_parts infoB
  refine Lib.wpList_append_own_string _ hgd s x 22 9 ho B 5 i0 Try.underlying22 Try.underlying9 hi hz0 hz1 hz2 _ _ _ hs hown t hx (by unfold maxLen; omega) (by omega) hB ?_
  intro v' w' hown' hgrow _
  refine h v' w' hown' (Below.grown (Below.refl _ _) hgrow hB (fun k hk => (hown.lt k hk).1)) ?_
  exact (Lib.OthersKept.refl _ _ _).grown hgrow (own_tag hown)
/-- A row of the call's own has grown by some bytes; all else lies as it did. -/
def GrewT (B n : Nat) (xs : List Value) (out : List UInt8) (w : World) (e : Ending) (w' : World) : Prop :=
  ∃ v', e = .returned v' ∧ w'.ownsRow B 5 1 v' (n + out.length) (xs ++ Lib.byteCells out) ∧ Below B w w' ∧ Kept w w'
theorem GrewT.mk {B n : Nat} {xs : List Value} {out : List UInt8} {w : World} {e : Ending} {w' : World} (v' : Value) (h : e = .returned v') (ho : w'.ownsRow B 5 1 v' (n + out.length) (xs ++ Lib.byteCells out)) (hb : Below B w w') (hk : Kept w w') : GrewT B n xs out w e w' := ⟨v', h, ho, hb, hk⟩
theorem kept_alloc (w : World) (o : Obj) : Kept w (w.alloc o) := (Lib.OthersKept.refl _ _ _).alloc _
theorem owns_kept {w w' : World} {base n : Nat} {e : TypeId} {size : Nat} {v : Value} {xs : List Value} (h : w.ownsRow base e size v n xs) (hk : Kept w w') (hne : e ≠ 5) : w'.ownsRow base e size v n xs := by
  obtain ⟨h1, h2⟩ := h
  refine ⟨h1, ?_⟩
  rcases h2 with h2 | ⟨g, cap, cur, hv, hg, hh, r⟩
  · exact .inl h2
  · exact .inr ⟨g, cap, cur, hv, hg, hk g _ hh (by simp) (fun c fz e' => by injection e' with _ e2; exact hne e2), r⟩
theorem grow_cat {B n : Nat} {xs : List Value} {w : World} {v : Value} {a b : List UInt8} (h : w.ownsRow B 5 1 v (n + a.length + b.length) (xs ++ Lib.byteCells a ++ Lib.byteCells b)) : w.ownsRow B 5 1 v (n + (a ++ b).length) (xs ++ Lib.byteCells (a ++ b)) := by
  have e : Lib.byteCells (a ++ b) = Lib.byteCells a ++ Lib.byteCells b := by simp [Lib.byteCells]
  rw [e, List.length_append, ← Nat.add_assoc, ← List.append_assoc]; exact h
theorem itemsIn_own (body : ByteArray) (l : List Val) (w : World) (hs : body.size ≤ 1048576) (hi : items body = some l) :
    Calls Try.prog 79 #[.string body] w fun e w' => (∃ p cap, e = .returned (.slice p l.length cap) ∧ w'.ownsRow w.heap.size 27 3 (.slice p l.length cap) l.length (flat l) ∧ (l ≠ [] → ∃ g, p = some ⟨g, 0, none⟩)) ∧ Below w.heap.size w w' := by
  by_cases hl : l = []
  · subst hl
    exact (itemsIn_nil body w hs hi).mono fun e w' ⟨he, hb⟩ => ⟨⟨none, 0, he, World.ownsRow_nil _ _ _ _, fun h => absurd rfl h⟩, hb⟩
  · exact (itemsIn_cons body l w hs hi hl).mono fun e w' ⟨⟨g, cap, he, ho⟩, hb⟩ => ⟨⟨some ⟨g, 0, none⟩, cap, he, ho, fun _ => ⟨g, rfl⟩⟩, hb⟩
theorem fieldsIn_own (body : ByteArray) (l : List Fld) (w : World) (hs : body.size ≤ 1048576) (hi : fields body = some l) :
    Calls Try.prog 85 #[.string body] w fun e w' => (∃ p cap, e = .returned (.slice p l.length cap) ∧ w'.ownsRow w.heap.size 36 4 (.slice p l.length cap) l.length (flatF l) ∧ (l ≠ [] → ∃ g, p = some ⟨g, 0, none⟩)) ∧ Below w.heap.size w w' := by
  by_cases hl : l = []
  · subst hl
    exact (fieldsIn_nil body w hs hi).mono fun e w' ⟨he, hb⟩ => ⟨⟨none, 0, he, World.ownsRow_nil _ _ _ _, fun h => absurd rfl h⟩, hb⟩
  · exact (fieldsIn_cons body l w hs hi hl).mono fun e w' ⟨⟨g, cap, he, ho⟩, hb⟩ => ⟨⟨some ⟨g, 0, none⟩, cap, he, ho, fun _ => ⟨g, rfl⟩⟩, hb⟩
theorem kept_below {w w1 w' : World} (h : Kept w w1) (hb : Below w1.heap.size w1 w') : Kept w w' := Lib.OthersKept.below h hb
/-- Bytes behind bytes. -/
theorem grow_more {B n : Nat} {xs : List Value} {w : World} {v : Value} {a b c : List UInt8} (hc : c = a ++ b) (h : w.ownsRow B 5 1 v (n + a.length + b.length) (xs ++ Lib.byteCells a ++ Lib.byteCells b)) : w.ownsRow B 5 1 v (n + c.length) (xs ++ Lib.byteCells c) := by
  subst hc; exact grow_cat h
theorem kept_new {w w' : World} {cs : Array Value} {e : TypeId} (h : Kept (w.alloc (.cells cs e)) w') (hne : e ≠ 5) (j : Nat) : w'.cell? ⟨w.heap.size, j, none⟩ = cs[j]? := by
  have := h w.heap.size _ (heap_alloc_new w _) (by simp) (fun c fz e' => by injection e' with _ e2; exact hne e2)
  simp [World.cell?, this]
theorem convT (w : World) (v : Value) (l : List UInt8) (B : Nat) (h : w.ownsRow B 5 1 v l.length (Lib.byteCells l)) : (convert 22 9 v).run Try.prog w = .ok (.string (mkB l)) w := by
  rcases h.2 with ⟨rfl, h0⟩ | ⟨g, cap, cur, rfl, _⟩
  · obtain rfl : l = [] := List.eq_nil_of_length_eq_zero h0
    exact run_convert_bytes_nil w 22 5 Try.underlying22 Try.underlying5 0 0 9 Try.underlying9
  · exact run_convert_bytes_back (P := Try.prog) w 22 9 5 ⟨g, 0, none⟩ cap l Try.underlying22 Try.underlying5 Try.underlying9 (fun j hj => h.cells (g := g) rfl j _ (by simp [Lib.byteCells, hj]))

end Go.Proofs.Ytklicfcafpehfaa
