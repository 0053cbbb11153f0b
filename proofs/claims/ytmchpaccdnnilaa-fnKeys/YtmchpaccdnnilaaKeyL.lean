/- How long the key of a right value is at most, and that keys one behind the other are split where they end. Nothing of the program is used here. -/
import Derived.Test.YtmchpaccdnnilaaKeyO
import Derived.Test.YtmchpaccdnnilaaSplM
namespace Go.Proofs.Ytmchpaccdnnilaa
open Go.RowKit
set_option linter.unusedVariables false

/-- How many bytes a value's bytes are. -/
def encN (v : Val) : Nat := if v.k = 0 then 1 else if v.k = 1 then 2 else if v.k = 2 then 9 else 3 + v.t.size
theorem cutV_encN {s b : ByteArray} {v : Val} (h : cutV s = some (v, b)) : encN v + b.size ≤ s.size := by
  unfold cutV at h
  split at h
  · cases h
  · rename_i hz
    have hr : ∀ {c : Nat} {r b : ByteArray} {v : Val}, cutR c r = some (v, b) → encN v + b.size ≤ r.size + 1 := by
      intro c r b v h
      unfold cutR at h
      split at h
      · injection h with h; injection h with h1 h2; subst h1; subst h2; simp [encN]; omega
      · split at h
        · split at h
          · cases h
          · injection h with h; injection h with h1 h2; subst h1; subst h2; simp [encN]; omega
        · split at h
          · split at h
            · cases h
            · split at h
              · cases h
              · injection h with h; injection h with h1 h2; subst h1; subst h2; simp [encN]; omega
          · split at h
            · cases hc : cutT r 2 with
              | none => rw [hc] at h; cases h
              | some p =>
                rw [hc] at h
                have h1 := cutT_sum (a := p.1) (b := p.2) hc
                injection h with h; injection h with h2 h3; subst h2; subst h3
                rename_i c0 c1 c2 c3
                simp only [encN]
                rw [if_neg (by omega), if_neg (by omega), if_neg (by omega)]
                omega
            · cases h
    have := hr h
    have e : (s.extract 1 s.size).size = s.size - 1 := ext_size s 1
    omega
theorem items_encN : ∀ (m : Nat) (t : ByteArray) (l : List Val), t.size ≤ m → items t = some l → (l.map encN).sum ≤ t.size
  | 0, t, l, hm, h => by
    rw [items_nil (by omega)] at h; injection h with h; subst h; simp
  | m + 1, t, l, hm, h => by
    by_cases hz : t.size = 0
    · rw [items_nil hz] at h; injection h with h; subst h; simp
    · cases hc : cutV t with
      | none => rw [items_none hz hc] at h; cases h
      | some p =>
        obtain ⟨v, r⟩ := p
        have hsum := cutV_encN hc
        have hs2 := cutV_sum hc
        rw [items_cons hc] at h
        cases hr : items r with
        | none => rw [hr] at h; cases h
        | some l2 =>
          rw [hr] at h; injection h with h; subst h
          have ih := items_encN m r l2 (by omega) hr
          show ((v :: l2).map encN).sum ≤ _
          rw [List.map_cons, List.sum_cons]; omega
theorem cutF_encN {s b : ByteArray} {f : Fld} (h : cutF s = some (f, b)) : 1 + f.name.size + encN f.v + b.size ≤ s.size := by
  unfold cutF at h
  cases hc : cutT s 1 with
  | none => rw [hc] at h; cases h
  | some p =>
    rw [hc] at h
    have h1 := cutT_sum (a := p.1) (b := p.2) hc
    cases hv : cutV p.2 with
    | none => simp only [hv] at h; cases h
    | some q =>
      simp only [hv] at h; injection h with h; injection h with h2 h3; subst h2; subst h3
      have h4 := cutV_encN (v := q.1) (b := q.2) hv
      show 1 + p.1.size + encN q.1 + q.2.size ≤ _
      omega
theorem fields_encN : ∀ (m : Nat) (t : ByteArray) (l : List Fld), t.size ≤ m → fields t = some l → (l.map (fun f => 1 + f.name.size + encN f.v)).sum ≤ t.size
  | 0, t, l, hm, h => by
    rw [fields_nil (by omega)] at h; injection h with h; subst h; simp
  | m + 1, t, l, hm, h => by
    by_cases hz : t.size = 0
    · rw [fields_nil hz] at h; injection h with h; subst h; simp
    · cases hc : cutF t with
      | none => rw [fields_none hz hc] at h; cases h
      | some p =>
        obtain ⟨f, r⟩ := p
        have hsum := cutF_encN hc
        have hs2 := cutF_size hc
        rw [fields_cons hc] at h
        cases hr : fields r with
        | none => rw [hr] at h; cases h
        | some l2 =>
          rw [hr] at h; injection h with h; subst h
          have ih := fields_encN m r l2 (by omega) hr
          show ((f :: l2).map (fun f => 1 + f.name.size + encN f.v)).sum ≤ _
          rw [List.map_cons, List.sum_cons]; omega
theorem flat3_len {α : Type} (f : α → List UInt8) (g : α → Nat) : ∀ l : List α, (∀ u ∈ l, (f u).length ≤ 3 * g u) → (l.flatMap f).length ≤ 3 * (l.map g).sum
  | [], _ => by simp
  | x :: r, h => by
    have h1 := h x (by simp)
    have h2 := flat3_len f g r (fun u hu => h u (by simp [hu]))
    rw [List.flatMap_cons, List.length_append, List.map_cons, List.sum_cons]
    omega
theorem keyV_three : ∀ (d : Nat) (v : Val), fits d v = true → (keyV d v).length ≤ 3 * encN v
  | d, v, h => by
    by_cases h4 : v.k = 4
    · obtain ⟨hs, hi, hl, d', rfl, hall⟩ := list_parts d v h h4
      rw [keyV_list d' v h4]
      have h1 := flat3_len (keyV d') encN (itms v) (fun u hu => keyV_three d' u (hall u hu).1)
      have h2 := items_encN v.t.size v.t (itms v) (Nat.le_refl _) hi
      have e : encN v = 3 + v.t.size := by unfold encN; rw [if_neg (by omega), if_neg (by omega), if_neg (by omega)]
      simp only [List.length_cons, List.length_append, List.length_nil]
      omega
    · by_cases h5 : v.k = 5
      · obtain ⟨hs, hi, hl, _, d', rfl, hall, _⟩ := doc_parts d v h h5
        rw [keyV_doc d' v h5]
        have h1 := flat3_len (fieldK (keyV d')) (fun f => 1 + f.name.size + encN f.v) (flds v) (fun f hf => by
          have i1 := keyV_three d' f.v (hall f hf).1
          have i2 := txtK_len f.name.data.toList
          have i3 := toList_length f.name
          unfold fieldK
          rw [List.length_cons, List.length_append]
          omega)
        have h2 := fields_encN v.t.size v.t (flds v) (Nat.le_refl _) hi
        have e : encN v = 3 + v.t.size := by unfold encN; rw [if_neg (by omega), if_neg (by omega), if_neg (by omega)]
        simp only [List.length_cons, List.length_append, List.length_nil]
        omega
      · rw [keyV_base d v h4 h5]
        rw [fits_base d v h4 h5] at h
        have hl := toList_length v.t
        have l1 : (u8s (numB v.n 1)).length = 1 := by rw [u8s_len, numB_len]
        have l2 : (u8s (numB (v.n + 4611686018427387904) 8)).length = 8 := by rw [u8s_len, numB_len]
        have l3 := txtK_len v.t.data.toList
        unfold baseK encN
        rw [List.length_cons]
        rcases base_parts v h with ⟨k, _⟩ | ⟨k, _⟩ | ⟨k, _⟩ | ⟨k, _⟩
        · rw [if_neg (by omega), if_neg (by omega), if_neg (by omega), if_pos k]; simp
        · rw [if_pos k, if_neg (by omega), if_pos k]; omega
        · rw [if_neg (by omega), if_pos k, if_neg (by omega), if_neg (by omega), if_pos k]; omega
        · rw [if_neg (by omega), if_neg (by omega), if_pos k, if_neg (by omega), if_neg (by omega), if_neg (by omega)]; omega
  termination_by d => d
theorem key_short (v : Val) (h : okB v = true) : (keyV 5 v).length ≤ 1000 := by
  have h1 := keyV_three 5 v h
  have h2 : encN v ≤ 303 := by
    have h3 : v.t.size ≤ 300 := by
      rcases Nat.lt_or_ge 300 v.t.size with h' | h'
      · have := fits_big 5 v h'; unfold okB at h; rw [h] at this; cases this
      · exact h'
    unfold encN
    (repeat' split) <;> omega
  omega

theorem from_mk (l : List UInt8) (i : Nat) : Tr.from_ (mkB l) i = mkB (l.drop i) := by
  apply ba_ext
  unfold Tr.from_
  rw [extract_list, mkB_data, mkB_data, mkB_size]
  exact List.take_of_length_le (by simp)
theorem mk_get (l : List UInt8) (i : Nat) (h : i < (mkB l).size) (h2 : i < l.length) : (mkB l)[i]'h = l[i]'h2 := by
  have := get_data (mkB l) i h (by rw [mkB_data]; exact h2)
  refine this.symm.trans ?_
  simp only [mkB_data]
theorem get_behind {p r : List UInt8} {c : UInt8} (h : p.length < (p ++ c :: r).length) : (p ++ c :: r)[p.length] = c := by
  simp
/-- The end of an escaped text, wherever it stands. -/
theorem txtF_key : ∀ (t p r : List UInt8), Tr.txtF (mkB (p ++ (txtK t ++ r))) p.length = p.length + (txtK t).length
  | [], p, r => by
    have e : p ++ (txtK [] ++ r) = p ++ 0 :: (0 :: r) := rfl
    have e2 : p ++ 0 :: (0 :: r) = (p ++ [0]) ++ 0 :: r := by simp
    rw [e]
    have hs : p.length + 1 < (mkB (p ++ 0 :: (0 :: r))).size := by rw [mkB_size]; simp
    rw [Tr.txtF_hit _ _ hs (by rw [mk_get _ _ (by omega) (by simp)]; simp) (by rw [mk_get _ _ hs (by simp)]; simp)]
    rfl
  | c :: t, p, r => by
    have hc : txtK (c :: t) = (if c = 0 then [0, 255] else [c]) ++ txtK t := by unfold txtK escL; rw [List.flatMap_cons, List.append_assoc]
    rw [hc]
    by_cases h0 : c = 0
    · rw [if_pos h0]
      have e : p ++ (([0, 255] ++ txtK t) ++ r) = (p ++ [0, 255]) ++ (txtK t ++ r) := by simp
      have ih := txtF_key t (p ++ [0, 255]) r
      rw [e]
      have hs : p.length + 1 < (mkB ((p ++ [0, 255]) ++ (txtK t ++ r))).size := by rw [mkB_size]; simp
      rw [Tr.txtF_two _ _ hs (by rw [mk_get _ _ hs (by simp)]; simp)]
      have el : (p ++ [0, 255]).length = p.length + 2 := by simp
      rw [el] at ih
      rw [ih]; simp; omega
    · rw [if_neg h0]
      have e : p ++ (([c] ++ txtK t) ++ r) = (p ++ [c]) ++ (txtK t ++ r) := by simp
      have ih := txtF_key t (p ++ [c]) r
      rw [e]
      have hs : p.length < (mkB ((p ++ [c]) ++ (txtK t ++ r))).size := by rw [mkB_size]; simp
      rw [Tr.txtF_one _ _ hs (by rw [mk_get _ _ hs (by simp)]; simpa using h0)]
      have el : (p ++ [c]).length = p.length + 1 := by simp
      rw [el] at ih
      rw [ih]; simp; omega
theorem txt0_key (t r : List UInt8) : Tr.txt0 (mkB (txtK t ++ r)) = (txtK t).length := by
  have := txtF_key t [] r
  simpa [Tr.txt0] using this
theorem txtK_pos (t : List UInt8) : 2 ≤ (txtK t).length := by unfold txtK; simp
theorem drop_pre (p r : List UInt8) : (p ++ r).drop p.length = r := by simp
/-- Many keys, one behind the other. -/
theorem manyK_items {α : Type} (L : ByteArray → Nat) (f : α → List UInt8) : ∀ (l : List α) (p r : List UInt8), (∀ u ∈ l, (∀ q, L (mkB (f u ++ q)) = (f u).length) ∧ ∃ c q, c ≠ 0 ∧ f u = c :: q) →
    Tr.manyK L false (mkB (p ++ (l.flatMap f ++ 0 :: r))) p.length = p.length + ((l.flatMap f).length + 1)
  | [], p, r, _ => by
    have hs : p.length < (mkB (p ++ (([] : List α).flatMap f ++ 0 :: r))).size := by rw [mkB_size]; simp
    rw [Tr.manyK_zero _ _ _ _ hs (by rw [mk_get _ _ hs (by simp)]; simp)]
    simp
  | x :: l, p, r, h => by
    obtain ⟨hL, c, q, hc, hq⟩ := h x (by simp)
    have e : p ++ ((x :: l).flatMap f ++ 0 :: r) = (p ++ f x) ++ (l.flatMap f ++ 0 :: r) := by simp
    have e2 : p ++ ((x :: l).flatMap f ++ 0 :: r) = p ++ (f x ++ (l.flatMap f ++ 0 :: r)) := by simp
    have ih := manyK_items L f l (p ++ f x) r (fun u hu => h u (by simp [hu]))
    have hs : p.length < (mkB (p ++ ((x :: l).flatMap f ++ 0 :: r))).size := by rw [mkB_size]; simp; omega
    have hl1 : 1 ≤ (f x).length := by rw [hq]; simp
    have hstep : Tr.stepK L false (mkB (p ++ ((x :: l).flatMap f ++ 0 :: r))) p.length hs = (f x).length := by
      unfold Tr.stepK
      rw [if_neg (by simp), from_mk, e2, drop_pre]
      exact hL _
    rw [Tr.manyK_step _ _ _ _ hs (by rw [mk_get _ _ hs (by simp; omega)]; simp [hq, hc]) (by rw [hstep]; omega), hstep, e]
    have el : (p ++ f x).length = p.length + (f x).length := by simp
    rw [el] at ih
    rw [ih, List.flatMap_cons, List.length_append]; omega
theorem manyK_fields (L : ByteArray → Nat) (g : Val → List UInt8) : ∀ (l : List Fld) (p r : List UInt8), (∀ u ∈ l, (∀ q, L (mkB (g u.v ++ q)) = (g u.v).length) ∧ 1 ≤ (g u.v).length) →
    Tr.manyK L true (mkB (p ++ (l.flatMap (fieldK g) ++ 0 :: r))) p.length = p.length + ((l.flatMap (fieldK g)).length + 1)
  | [], p, r, _ => by
    have hs : p.length < (mkB (p ++ (([] : List Fld).flatMap (fieldK g) ++ 0 :: r))).size := by rw [mkB_size]; simp
    rw [Tr.manyK_zero _ _ _ _ hs (by rw [mk_get _ _ hs (by simp)]; simp)]
    simp
  | x :: l, p, r, h => by
    obtain ⟨hL, hl1⟩ := h x (by simp)
    have e : p ++ ((x :: l).flatMap (fieldK g) ++ 0 :: r) = (p ++ fieldK g x) ++ (l.flatMap (fieldK g) ++ 0 :: r) := by simp
    have e2 : p ++ ((x :: l).flatMap (fieldK g) ++ 0 :: r) = (p ++ [1]) ++ (txtK x.name.data.toList ++ (g x.v ++ (l.flatMap (fieldK g) ++ 0 :: r))) := by simp [fieldK]
    have e3 : p ++ ((x :: l).flatMap (fieldK g) ++ 0 :: r) = (p ++ ([1] ++ txtK x.name.data.toList)) ++ (g x.v ++ (l.flatMap (fieldK g) ++ 0 :: r)) := by simp [fieldK]
    have ih := manyK_fields L g l (p ++ fieldK g x) r (fun u hu => h u (by simp [hu]))
    have hs : p.length < (mkB (p ++ ((x :: l).flatMap (fieldK g) ++ 0 :: r))).size := by rw [mkB_size]; simp; omega
    have hk := txtK_pos x.name.data.toList
    have hfl : (fieldK g x).length = 1 + (txtK x.name.data.toList).length + (g x.v).length := by unfold fieldK; simp; omega
    have hg0 : (mkB (p ++ ((x :: l).flatMap (fieldK g) ++ 0 :: r)))[p.length] = 1 := by rw [mk_get _ _ hs (by simp; omega)]; simp [fieldK]
    have h1 : Tr.txt0 (Tr.from_ (mkB (p ++ ((x :: l).flatMap (fieldK g) ++ 0 :: r))) (p.length + 1)) = (txtK x.name.data.toList).length := by
      rw [from_mk, e2, show p.length + 1 = (p ++ [1]).length by simp, drop_pre]
      exact txt0_key _ _
    have h2 : L (Tr.from_ (mkB (p ++ ((x :: l).flatMap (fieldK g) ++ 0 :: r))) (p.length + 1 + (txtK x.name.data.toList).length)) = (g x.v).length := by
      rw [from_mk, e3, show p.length + 1 + (txtK x.name.data.toList).length = (p ++ ([1] ++ txtK x.name.data.toList)).length by simp; omega, drop_pre]
      exact hL _
    have hstep : Tr.stepK L true (mkB (p ++ ((x :: l).flatMap (fieldK g) ++ 0 :: r))) p.length hs = (fieldK g x).length := by
      unfold Tr.stepK
      rw [if_pos rfl, if_pos hg0, h1, if_neg (by omega), h2, if_neg (by omega)]
      omega
    rw [Tr.manyK_step _ _ _ _ hs (by rw [hg0]; decide) (by rw [hstep]; omega), hstep, e]
    have el : (p ++ fieldK g x).length = p.length + (fieldK g x).length := by simp
    rw [el] at ih
    rw [ih, List.flatMap_cons, List.length_append]; omega
theorem mem_flat_len {α : Type} (f : α → List UInt8) : ∀ (l : List α) (u : α), u ∈ l → (f u).length ≤ (l.flatMap f).length
  | [], u, h => by simp at h
  | x :: l, u, h => by
    rw [List.flatMap_cons, List.length_append]
    rcases List.mem_cons.mp h with h | h
    · subst h; omega
    · have := mem_flat_len f l u h; omega
/-- **The end of a right value's key is found, whatever stands behind it.** -/
theorem lenK_key : ∀ (d : Nat) (v : Val), fits d v = true → ∀ (f : Nat) (q : List UInt8), (keyV d v).length ≤ f → Tr.lenK f (mkB (keyV d v ++ q)) = (keyV d v).length
  | d, v, h, f, q, hf => by
    obtain ⟨r0, hr0⟩ := keyV_head d v
    have hk := fits_kind d v h
    have hkb := kb_nat v.k hk.1 hk.2
    have hl1 : 1 ≤ (keyV d v).length := by rw [hr0]; simp
    obtain ⟨f, rfl⟩ : ∃ f', f = f' + 1 := ⟨f - 1, by omega⟩
    have hs : 0 < (mkB (keyV d v ++ q)).size := by rw [mkB_size]; simp; omega
    have h0 : (mkB (keyV d v ++ q))[0] = kb v.k := by rw [mk_get _ _ hs (by simp; omega)]; simp [hr0]
    rw [Tr.lenK_pos f _ hs, h0]
    have kne : ∀ n : Nat, n < 7 → (kb v.k = UInt8.ofNat n ↔ v.k + 1 = n) := fun n hn => by
      rw [← UInt8.toNat_inj, UInt8.toNat_ofNat']
      omega
    have k1 := kne 1 (by omega)
    have k2 := kne 2 (by omega)
    have k3 := kne 3 (by omega)
    have k4 := kne 4 (by omega)
    have k5 := kne 5 (by omega)
    have k6 := kne 6 (by omega)
    simp only [UInt8.reduceOfNat] at k1 k2 k3 k4 k5 k6
    by_cases h4 : v.k = 4
    · obtain ⟨_, _, _, d', rfl, hall⟩ := list_parts d v h h4
      rw [if_neg (by rw [k1]; omega), if_neg (by rw [k2]; omega), if_neg (by rw [k3]; omega), if_neg (by rw [k4]; omega), if_pos (by rw [k5]; omega)]
      have hlen : (keyV (d' + 1) v).length = ((itms v).flatMap (keyV d')).length + 2 := by rw [keyV_list d' v h4]; simp
      have e : keyV (d' + 1) v ++ q = [5] ++ ((itms v).flatMap (keyV d') ++ 0 :: q) := by rw [keyV_list d' v h4]; simp
      rw [e]
      have := manyK_items (Tr.lenK f) (keyV d') (itms v) [5] q (fun u hu => by
        have hu1 := (hall u hu).1
        have hku := fits_kind d' u hu1
        obtain ⟨ru, hru⟩ := keyV_head d' u
        have hm := mem_flat_len (keyV d') (itms v) u hu
        exact ⟨fun q => lenK_key d' u hu1 f q (by omega), _, _, kb_ne0 _ hku.1 hku.2, hru⟩)
      rw [show ([5] : List UInt8).length = 1 from rfl] at this
      rw [this]; omega
    · by_cases h5 : v.k = 5
      · obtain ⟨_, _, _, _, d', rfl, hall, _⟩ := doc_parts d v h h5
        rw [if_neg (by rw [k1]; omega), if_neg (by rw [k2]; omega), if_neg (by rw [k3]; omega), if_neg (by rw [k4]; omega), if_neg (by rw [k5]; omega), if_pos (by rw [k6]; omega)]
        have hlen : (keyV (d' + 1) v).length = ((flds v).flatMap (fieldK (keyV d'))).length + 2 := by rw [keyV_doc d' v h5]; simp
        have e : keyV (d' + 1) v ++ q = [6] ++ ((flds v).flatMap (fieldK (keyV d')) ++ 0 :: q) := by rw [keyV_doc d' v h5]; simp
        rw [e]
        have := manyK_fields (Tr.lenK f) (keyV d') (flds v) [6] q (fun u hu => by
          have hu1 := (hall u hu).1
          obtain ⟨ru, hru⟩ := keyV_head d' u.v
          have hm := mem_flat_len (fieldK (keyV d')) (flds v) u hu
          have hx : (keyV d' u.v).length ≤ (fieldK (keyV d') u).length := by unfold fieldK; simp; omega
          exact ⟨fun q => lenK_key d' u.v hu1 f q (by omega), by rw [hru]; simp⟩)
        rw [show ([6] : List UInt8).length = 1 from rfl] at this
        rw [this]; omega
      · have hb := h
        rw [fits_base d v h4 h5] at hb
        rw [keyV_base d v h4 h5]
        have l1 : (u8s (numB v.n 1)).length = 1 := by rw [u8s_len, numB_len]
        have l2 : (u8s (numB (v.n + 4611686018427387904) 8)).length = 8 := by rw [u8s_len, numB_len]
        rcases base_parts v hb with ⟨k, _⟩ | ⟨k, _⟩ | ⟨k, _⟩ | ⟨k, _⟩
        · rw [if_pos (by rw [k1]; omega)]
          unfold baseK
          rw [if_neg (by omega), if_neg (by omega), if_neg (by omega)]; rfl
        · have e : baseK v = kb v.k :: u8s (numB v.n 1) := by unfold baseK; rw [if_pos k]
          rw [if_neg (by rw [k1]; omega), if_pos (by rw [k2]; omega), e, if_pos (by rw [mkB_size]; simp; omega)]
          simp; omega
        · have e : baseK v = kb v.k :: u8s (numB (v.n + 4611686018427387904) 8) := by unfold baseK; rw [if_neg (by omega), if_pos k]
          rw [if_neg (by rw [k1]; omega), if_neg (by rw [k2]; omega), if_pos (by rw [k3]; omega), e, if_pos (by rw [mkB_size]; simp; omega)]
          simp; omega
        · have e : baseK v = kb v.k :: txtK v.t.data.toList := by unfold baseK; rw [if_neg (by omega), if_neg (by omega), if_pos k]
          have hp := txtK_pos v.t.data.toList
          have ht : Tr.txt0 (Tr.from_ (mkB (kb v.k :: txtK v.t.data.toList ++ q)) 1) = (txtK v.t.data.toList).length := by
            rw [from_mk]
            exact txt0_key _ _
          rw [if_neg (by rw [k1]; omega), if_neg (by rw [k2]; omega), if_neg (by rw [k3]; omega), if_pos (by rw [k4]; omega), e, ht, if_neg (by omega)]
          simp; omega
  termination_by d => d
/-- Two keys, one behind the other, are split into these two, and not into three. -/
theorem split_two (a b : Val) (ha : okB a = true) (hb : okB b = true) :
    Tr.splB (mkB (keyV 5 a ++ keyV 5 b)) 2 = some [mkB (keyV 5 a), mkB (keyV 5 b)] ∧ Tr.splB (mkB (keyV 5 a ++ keyV 5 b)) 3 = none := by
  obtain ⟨ra, hra⟩ := keyV_head 5 a
  obtain ⟨rb, hrb⟩ := keyV_head 5 b
  have la : 1 ≤ (keyV 5 a).length := by rw [hra]; simp
  have lb : 1 ≤ (keyV 5 b).length := by rw [hrb]; simp
  have hsz : (mkB (keyV 5 a ++ keyV 5 b)).size = (keyV 5 a).length + (keyV 5 b).length := by rw [mkB_size]; simp
  have h1 := lenK_key 5 a ha ((keyV 5 a).length + (keyV 5 b).length) (keyV 5 b) (by omega)
  have h2 := lenK_key 5 b hb ((keyV 5 a).length + (keyV 5 b).length) [] (by omega)
  rw [List.append_nil] at h2
  have f1 : Tr.from_ (mkB (keyV 5 a ++ keyV 5 b)) (keyV 5 a).length = mkB (keyV 5 b) := by rw [from_mk, drop_pre]
  have f2 : Tr.from_ (mkB (keyV 5 b)) (keyV 5 b).length = mkB [] := by rw [from_mk]; simp
  have x1 : (mkB (keyV 5 a ++ keyV 5 b)).extract 0 (keyV 5 a).length = mkB (keyV 5 a) := by
    apply ba_ext; rw [extract_list, mkB_data, mkB_data]; simp
  have x2 : (mkB (keyV 5 b)).extract 0 (keyV 5 b).length = mkB (keyV 5 b) := by
    apply ba_ext; rw [extract_list, mkB_data]; simp
  have h3 : ∀ f, Tr.lenK f (mkB []) = 0 := fun f => by
    have := Tr.lenK_le f (mkB [])
    rw [mkB_size] at this
    simpa using this
  unfold Tr.splB
  rw [hsz]
  refine ⟨?_, ?_⟩
  · rw [Tr.splitK, h1, if_neg (by omega), f1, Tr.splitK, h2, if_neg (by omega), f2, Tr.splitK, x1, x2]
    rfl
  · rw [Tr.splitK, h1, if_neg (by omega), f1, Tr.splitK, h2, if_neg (by omega), f2, Tr.splitK, h3, if_pos rfl]
    rfl

end Go.Proofs.Ytmchpaccdnnilaa
