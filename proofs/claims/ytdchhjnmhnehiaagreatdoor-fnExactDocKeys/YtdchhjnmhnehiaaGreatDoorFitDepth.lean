/- A right value fits a depth just if it is no deeper; lists and documents made of right values; nothing of the program is used here. -/
import Derived.Test.YtdchhjnmhnehiaaGreatDoorDepthM
import Derived.Test.YtdchhjnmhnehiaaGreatDoorCodec
namespace Go.Proofs.YtdchhjnmhnehiaaGreatDoor
open Go.RowKit
set_option linter.unusedVariables false

theorem dmax_le (p : Val → Int) (l : List Val) (d : Int) (hd : 0 ≤ d) : dmax p l ≤ d ↔ ∀ v ∈ l, p v ≤ d := by
  suffices h : ∀ (l : List Val) (n : Int), n ≤ d → (l.foldl (fun n v => max n (p v)) n ≤ d ↔ ∀ v ∈ l, p v ≤ d) by
    exact h l 0 hd
  intro l
  induction l with
  | nil => intro n hn; simp [hn]
  | cons v l ih =>
    intro n hn
    rw [List.foldl_cons]
    by_cases hv : p v ≤ d
    · rw [ih (max n (p v)) (by omega)]; simp [hv]
    · constructor
      · intro h
        exfalso
        have hm : ∀ (l : List Val) (n : Int), n ≤ l.foldl (fun n v => max n (p v)) n := by
          intro l
          induction l with
          | nil => intro n; exact Int.le_refl _
          | cons u l ih2 => intro n; exact Int.le_trans (by omega) (ih2 (max n (p u)))
        have := hm l (max n (p v))
        omega
      · intro h; exact absurd (h v (by simp)) hv
theorem dmax_congr (p q : Val → Int) (l : List Val) (h : ∀ v ∈ l, p v = q v) : dmax p l = dmax q l := by
  unfold dmax
  suffices hh : ∀ (l : List Val) (n : Int), (∀ v ∈ l, p v = q v) → l.foldl (fun n v => max n (p v)) n = l.foldl (fun n v => max n (q v)) n by exact hh l 0 h
  intro l
  induction l with
  | nil => intro n _; rfl
  | cons v l ih => intro n hv; rw [List.foldl_cons, List.foldl_cons, hv v (by simp)]; exact ih _ (fun u hu => hv u (by simp [hu]))
theorem rise_swap (p q : Val → Bool) : ∀ (l : List Fld) (m : ByteArray), riseAll p m l = true → (∀ f ∈ l, q f.v = true) → riseAll q m l = true
  | [], _, _, _ => rfl
  | f :: l, m, h, hq => by
    simp only [riseAll, Bool.and_eq_true] at h ⊢
    exact ⟨⟨h.1.1, hq f (by simp)⟩, rise_swap p q l _ h.2 (fun g hg => hq g (by simp [hg]))⟩
/-- At a greater depth the same values fit, and their depth is told the same. -/
theorem fits_depth : ∀ (d : Nat) (v : Val), fits d v = true → ∀ e, d ≤ e → fits e v = true ∧ depthV e v = depthV d v
  | d, v, h, e, hde => by
    by_cases h4 : v.k = 4
    · obtain ⟨d', l, rfl, hi, hn, hs, hall⟩ := fits_items h4 h
      obtain ⟨e', rfl⟩ : ∃ e', e = e' + 1 := ⟨e - 1, by omega⟩
      have ih : ∀ u ∈ l, fits e' u = true ∧ depthV e' u = depthV d' u := fun u hu => fits_depth d' u (hall u hu).1 e' (by omega)
      constructor
      · rw [fits_list e' v h4, hi, Bool.and_eq_true, decide_eq_true_eq]
        exact ⟨⟨hn, hs⟩, by simp only [itemsAll, List.all_eq_true]; exact fun u hu => (ih u hu).1⟩
      · rw [depthV_list e' v l h4 hi, depthV_list d' v l h4 hi]
        congr 1
        exact dmax_congr _ _ l (fun u hu => (ih u hu).2)
    · by_cases h5 : v.k = 5
      · obtain ⟨d', l, rfl, hi, hn, hs, hr, hall⟩ := fits_fields h5 h
        obtain ⟨e', rfl⟩ : ∃ e', e = e' + 1 := ⟨e - 1, by omega⟩
        have ih : ∀ f ∈ l, fits e' f.v = true ∧ depthV e' f.v = depthV d' f.v := fun f hf => fits_depth d' f.v (hall f hf).1 e' (by omega)
        constructor
        · rw [fits_doc e' v h5, hi, Bool.and_eq_true, decide_eq_true_eq]
          exact ⟨⟨hn, hs⟩, rise_swap _ _ l em hr (fun f hf => (ih f hf).1)⟩
        · rw [depthV_doc e' v l h5 hi, depthV_doc d' v l h5 hi]
          unfold dF
          congr 1
          exact dmax_congr _ _ _ (fun u hu => by
            obtain ⟨f, hf, rfl⟩ := List.mem_map.mp hu
            exact (ih f hf).2)
      · rw [fits_base d v h4 h5] at h
        exact ⟨by rw [fits_base e v h4 h5]; exact h, by rw [depthV_plain e v h4 h5, depthV_plain d v h4 h5]⟩

/-- A right value that is no deeper than d fits d. -/
theorem fits_of_depth : ∀ (e d : Nat) (v : Val), fits e v = true → depthV e v ≤ d → fits d v = true
  | e, d, v, h, hd => by
    by_cases hed : e ≤ d
    · exact (fits_depth e v h d hed).1
    · by_cases h4 : v.k = 4
      · obtain ⟨e', l, rfl, hi, hn, hs, hall⟩ := fits_items h4 h
        rw [depthV_list e' v l h4 hi] at hd
        have h0 := (dmax_bd (depthV e') e' (by omega) (depthV_bd e') l).1
        obtain ⟨d', rfl⟩ : ∃ d', d = d' + 1 := ⟨d - 1, by omega⟩
        have hle := (dmax_le (depthV e') l d' (by omega)).mp (by omega)
        rw [fits_list d' v h4, hi, Bool.and_eq_true, decide_eq_true_eq]
        exact ⟨⟨hn, hs⟩, by simp only [itemsAll, List.all_eq_true]; exact fun u hu => fits_of_depth e' d' u (hall u hu).1 (hle u hu)⟩
      · by_cases h5 : v.k = 5
        · obtain ⟨e', l, rfl, hi, hn, hs, hr, hall⟩ := fits_fields h5 h
          rw [depthV_doc e' v l h5 hi] at hd
          unfold dF at hd
          have h0 := (dmax_bd (depthV e') e' (by omega) (depthV_bd e') (l.map Fld.v)).1
          obtain ⟨d', rfl⟩ : ∃ d', d = d' + 1 := ⟨d - 1, by omega⟩
          have hle := (dmax_le (depthV e') (l.map Fld.v) d' (by omega)).mp (by omega)
          rw [fits_doc d' v h5, hi, Bool.and_eq_true, decide_eq_true_eq]
          exact ⟨⟨hn, hs⟩, rise_swap _ _ l em hr (fun f hf => fits_of_depth e' d' f.v (hall f hf).1 (hle f.v (List.mem_map.mpr ⟨f, hf, rfl⟩)))⟩
        · rw [fits_base e v h4 h5] at h
          rw [fits_base d v h4 h5]; exact h
/-- **A list made of right values is right just if none of them is too deep.** -/
theorem list_made (l : List Val) (hall : ∀ v ∈ l, okB v = true) (hs : (l.flatMap encB).length ≤ 300) :
    okB ⟨4, 0, txt (l.flatMap encB)⟩ = decide (dmax (depthV 5) l ≤ 4) := by
  have hsz : (txt (l.flatMap encB)).size ≤ 300 := by rw [txt_size]; exact hs
  unfold okB
  rw [fits_list 4 _ rfl]
  show (decide ((0 : Int) = 0 ∧ (txt (l.flatMap encB)).size ≤ 300) && itemsAll (fits 4) (items (txt (l.flatMap encB)))) = _
  rw [items_enc l hall, decide_eq_true ⟨rfl, hsz⟩, Bool.true_and]
  rw [Bool.eq_iff_iff, decide_eq_true_eq, dmax_le (depthV 5) l 4 (by omega)]
  simp only [itemsAll, List.all_eq_true]
  constructor
  · intro h v hv
    have h1 := fits_depth 4 v (h v hv) 5 (by omega)
    have h2 := (depthV_bd 4 v).2
    rw [h1.2]; exact_mod_cast h2
  · intro h v hv
    exact fits_of_depth 5 4 v (hall v hv) (by exact_mod_cast h v hv)

def encF (f : Fld) : List Int := numB f.name.size 1 ++ bytesI f.name ++ encB f.v
theorem cutF_enc (f : Fld) (h : okB f.v = true) (hn : f.name.size < 256) (r : List Int) : cutF (txt (encF f ++ r)) = some (f, txt r) := by
  unfold cutF encF
  rw [List.append_assoc (numB _ 1 ++ bytesI f.name), cutT_txt 1 f.name _ (by omega)]
  simp only [cutV_enc f.v h r]
  rfl
theorem fields_enc : ∀ (l : List Fld), (∀ f ∈ l, okB f.v = true ∧ f.name.size < 256) → fields (txt (l.flatMap encF)) = some l
  | [], _ => fields_nil (by rw [txt_size]; rfl)
  | f :: l, h => by
    rw [List.flatMap_cons, fields_cons (cutF_enc f (h f (by simp)).1 (h f (by simp)).2 _), fields_enc l (fun u hu => h u (by simp [hu]))]; rfl
/-- **A document made of right values under short names that rise is right just if none of them is too deep.** -/
theorem doc_made (l : List Fld) (hall : ∀ f ∈ l, okB f.v = true) (hr : riseAll (fun _ => true) em l = true) (hs : (l.flatMap encF).length ≤ 300) :
    okB ⟨5, 0, txt (l.flatMap encF)⟩ = decide (dF (depthV 5) l ≤ 4) := by
  have hsz : (txt (l.flatMap encF)).size ≤ 300 := by rw [txt_size]; exact hs
  have hnm : ∀ f ∈ l, okB f.v = true ∧ f.name.size < 256 := fun f hf => ⟨hall f hf, by
    have := (rise_all _ l em hr f hf).1
    unfold shortB at this
    rw [Bool.and_eq_true, decide_eq_true_eq] at this
    omega⟩
  unfold okB
  rw [fits_doc 4 _ rfl]
  show (decide ((0 : Int) = 0 ∧ (txt (l.flatMap encF)).size ≤ 300) && fieldsAll (fits 4) em (fields (txt (l.flatMap encF)))) = _
  rw [fields_enc l hnm, decide_eq_true ⟨rfl, hsz⟩, Bool.true_and]
  show riseAll (fits 4) em l = _
  unfold dF
  rw [Bool.eq_iff_iff, decide_eq_true_eq, dmax_le (depthV 5) (l.map Fld.v) 4 (by omega)]
  constructor
  · intro h v hv
    obtain ⟨f, hf, rfl⟩ := List.mem_map.mp hv
    have h1 := fits_depth 4 f.v (rise_all _ l em h f hf).2 5 (by omega)
    have h2 := (depthV_bd 4 f.v).2
    rw [h1.2]; exact_mod_cast h2
  · intro h
    exact rise_swap _ _ l em hr (fun f hf => fits_of_depth 5 4 f.v (hall f hf) (by exact_mod_cast h f.v (List.mem_map.mpr ⟨f, hf, rfl⟩)))

end Go.Proofs.YtdchhjnmhnehiaaGreatDoor
