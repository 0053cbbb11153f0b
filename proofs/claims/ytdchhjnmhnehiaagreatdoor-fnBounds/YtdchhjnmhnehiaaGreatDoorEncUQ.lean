/- Which kinds right values are of, and how a right value is laid into bytes. -/
import Derived.Test.YtdchhjnmhnehiaaGreatDoorEncI
import Derived.Laws.IdiomStrings
import Derived.Test.YtdchhjnmhnehiaaGreatDoorDepthM
import Derived.Test.YtdchhjnmhnehiaaGreatDoorGetM
import Derived.Test.YtdchhjnmhnehiaaGreatDoorOrdSQ
import Derived.Test.YtdchhjnmhnehiaaGreatDoorSplitM
namespace Go.Proofs.YtdchhjnmhnehiaaGreatDoor
open Go.RowKit
set_option linter.unusedVariables false

theorem ok_kinds (v : Val) (h : okB v = true) : v.k = 0 ∨ v.k = 1 ∨ (v.k = 2 ∧ -1000000000000 ≤ v.n ∧ v.n ≤ 1000000000000) ∨ ((v.k = 3 ∨ v.k = 4 ∨ v.k = 5) ∧ v.t.size ≤ 300) := by
  have hs : v.t.size ≤ 300 := by
    rcases Nat.lt_or_ge 300 v.t.size with h' | h'
    · rw [ok_big v h'] at h; cases h
    · exact h'
  by_cases h4 : v.k = 4
  · exact .inr (.inr (.inr ⟨.inr (.inl h4), hs⟩))
  · by_cases h5 : v.k = 5
    · exact .inr (.inr (.inr ⟨.inr (.inr h5), hs⟩))
    · unfold okB at h
      rw [fits_base 5 v h4 h5] at h
      unfold base at h
      by_cases k0 : v.k = 0
      · exact .inl k0
      · rw [if_neg k0] at h
        by_cases k1 : v.k = 1
        · exact .inr (.inl k1)
        · rw [if_neg k1] at h
          by_cases k2 : v.k = 2
          · rw [if_pos k2, decide_eq_true_eq] at h
            exact .inr (.inr (.inl ⟨k2, h.1, h.2.1⟩))
          · rw [if_neg k2] at h
            by_cases k3 : v.k = 3
            · exact .inr (.inr (.inr ⟨.inl k3, hs⟩))
            · rw [if_neg k3] at h; cases h

theorem l01Encode_any (v : Val) (h : okB v = true) (w : World) :
    Calls Tryz.prog 88 #[.agg #[.int .i64 v.k, .int .i64 v.n, .string v.t]] w fun e w' => e = .returned (.string (txt (encB v))) ∧ Below w.heap.size w w' := by
  obtain ⟨k, n, t⟩ := v
  rcases ok_kinds _ h with h | h | h | ⟨h, hs⟩
  · exact l01Encode_plain k n t w (.inl h)
  · exact l01Encode_plain k n t w (.inr (.inl h))
  · exact l01Encode_plain k n t w (.inr (.inr h))
  · exact l01Encode_text k n t w h (by simp at hs; omega)

theorem encB_len (v : Val) (h : okB v = true) : 1 ≤ (encB v).length ∧ (encB v).length ≤ 400 := by
  obtain ⟨k, n, t⟩ := v
  rcases ok_kinds _ h with h | h | ⟨h, _⟩ | ⟨h, hs⟩
  · simp at h; subst h; unfold encB; simp [numB_len]
  · simp at h; subst h; unfold encB; simp [numB_len]
  · simp at h; subst h; unfold encB; simp [numB_len]
  · simp at h hs
    rcases h with rfl | rfl | rfl <;> (unfold encB; simp [numB_len, bytesI_len]; omega)

theorem nb_range (n : Int) (j : Nat) : 0 ≤ nb n j ∧ nb n j < 256 := by unfold nb; omega
theorem numB_range (n : Int) (wd : Nat) : ∀ z ∈ numB n wd, 0 ≤ z ∧ z < 256 := by
  intro z hz
  unfold numB numK at hz
  obtain ⟨j, _, rfl⟩ := List.mem_map.mp hz
  exact nb_range _ _
theorem bytesI_range (t : ByteArray) : ∀ z ∈ bytesI t, 0 ≤ z ∧ z < 256 := by
  intro z hz
  unfold bytesI at hz
  obtain ⟨c, _, rfl⟩ := List.mem_map.mp hz
  have := c.toNat_lt
  omega
theorem encB_range (v : Val) : ∀ z ∈ encB v, 0 ≤ z ∧ z < 256 := by
  intro z hz
  unfold encB at hz
  rcases List.mem_append.mp hz with h | h
  · exact numB_range _ _ z h
  · split at h
    · cases h
    · split at h
      · exact numB_range _ _ z h
      · split at h
        · exact numB_range _ _ z h
        · rcases List.mem_append.mp h with h | h
          · exact numB_range _ _ z h
          · exact bytesI_range _ z h
theorem bytesRow_get (zs : List Int) (hr : ∀ z ∈ zs, 0 ≤ z ∧ z < 256) (cap i : Nat) (hi : i < zs.length) : (bytesRow (txt zs) cap)[i]? = some (.int .u8 (zs.getD i 0)) := by
  have e1 : (txt zs).data.size = zs.length := by simp [txt, strOfNums]
  unfold bytesRow
  rw [Array.getElem?_append_left (by simp [e1]; exact hi), Array.getElem?_map]
  have e2 : (txt zs).data[i]? = some (UInt8.ofNat (zs[i]).toNat) := by simp [txt, strOfNums, hi]
  rw [e2, List.getD_eq_getElem?_getD, List.getElem?_eq_getElem hi]
  have := hr zs[i] (List.getElem_mem _)
  simp only [Option.map_some, Option.getD_some]
  congr 2
  rw [UInt8.toNat_ofNat_of_lt' (by show (zs[i]).toNat < 256; omega)]
  omega

end Go.Proofs.YtdchhjnmhnehiaaGreatDoor

/- Values are read back from their bytes, said plainly: nothing of the program is used here. -/
namespace Go.Proofs.YtdchhjnmhnehiaaGreatDoor
open Go.RowKit
set_option linter.unusedVariables false

def by8 (z : Int) : UInt8 := UInt8.ofNat z.toNat
theorem txt_list (zs : List Int) : (txt zs).data.toList = zs.map by8 := strOfNums_data zs
theorem by8_nat (z : Int) (h0 : 0 ≤ z) (h1 : z < 256) : ((by8 z).toNat : Int) = z := by
  unfold by8
  rw [UInt8.toNat_ofNat_of_lt' (by show z.toNat < 256; omega)]
  omega
theorem pow8 (j : Nat) : (2 : Int) ^ (8 * j) = ((256 ^ j : Nat) : Int) := by
  rw [Int.pow_mul]; norm_cast
theorem by8_nb (n j : Nat) : (by8 (nb n j)).toNat = n / 256 ^ j % 256 := by
  have h := nb_range n j
  have e := by8_nat (nb n j) h.1 h.2
  have e2 : nb (n : Int) j = ((n / 256 ^ j % 256 : Nat) : Int) := by
    unfold nb; rw [pow8, Int.natCast_emod, Int.natCast_ediv]; rfl
  rw [e2] at e ⊢
  exact_mod_cast e
theorem be_num (n wd : Nat) : ∀ k, k ≤ wd → n < 256 ^ wd → beL ((numK (n : Int) wd k).map by8) = n / 256 ^ (wd - k)
  | 0, _, h => by rw [numK_zero, Nat.sub_zero, Nat.div_eq_of_lt h]; rfl
  | k + 1, hk, h => by
    rw [numK_succ, List.map_append, List.map_cons, List.map_nil, beL_snoc, be_num n wd k (by omega) h, by8_nb]
    have e : wd - k = (wd - 1 - k) + 1 := by omega
    have e2 : wd - (k + 1) = wd - 1 - k := by omega
    rw [e, e2, Nat.pow_succ, ← Nat.div_div_eq_div_mul]
    have := Nat.div_add_mod (n / 256 ^ (wd - 1 - k)) 256
    omega
theorem be_numB (n wd : Nat) (h : n < 256 ^ wd) : beL ((numB (n : Int) wd).map by8) = n := by
  unfold numB; rw [be_num n wd wd (Nat.le_refl _) h]; simp

theorem txt_cut (a b c : List Int) : (txt (a ++ b ++ c)).extract a.length (a.length + b.length) = txt b := by
  apply ByteArray.ext; apply Array.ext'
  rw [extract_list, txt_list, txt_list]
  simp
theorem txt_tail (a b : List Int) : (txt (a ++ b)).extract a.length (txt (a ++ b)).size = txt b := by
  have := txt_cut a b []
  rw [List.append_nil] at this
  rw [txt_size, List.length_append]; exact this
theorem beT_txt (a b : List Int) (k : Nat) (h : k = a.length) : beT (txt (a ++ b)) k = beL (a.map by8) := by
  unfold beT; rw [txt_list, h]; simp
theorem cutT_txt (wd : Nat) (t : ByteArray) (r : List Int) (h : t.size < 256 ^ wd) : cutT (txt (numB t.size wd ++ bytesI t ++ r)) wd = some (t, txt r) := by
  have hb : beT (txt (numB (t.size : Int) wd ++ bytesI t ++ r)) wd = t.size := by
    rw [List.append_assoc, beT_txt _ _ wd (numB_len _ _).symm, be_numB _ _ h]
  have hsz : (txt (numB (t.size : Int) wd ++ bytesI t ++ r)).size = wd + t.size + r.length := by
    rw [txt_size]; simp [numB_len, bytesI_len]; omega
  unfold cutT
  rw [hb, if_neg (by omega), if_neg (by omega)]
  have e1 := txt_cut (numB (t.size : Int) wd) (bytesI t) r
  rw [numB_len, bytesI_len, txt_bytes] at e1
  have e2 := txt_tail (numB (t.size : Int) wd ++ bytesI t) r
  rw [List.length_append, numB_len, bytesI_len] at e2
  rw [e1, e2]

theorem txt_cons (z : Int) (r : List Int) : (txt (z :: r)).extract 1 (txt (z :: r)).size = txt r := txt_tail [z] r
theorem hd_txt (z : Int) (r : List Int) : hd (txt (z :: r)) = (by8 z).toNat := by unfold hd; rw [txt_list]; rfl
theorem cutV_txt (z : Int) (r : List Int) (h0 : 0 ≤ z) (h1 : z < 256) : cutV (txt (z :: r)) = cutR z.toNat (txt r) := by
  unfold cutV
  have hs : (txt (z :: r)).size = r.length + 1 := by rw [txt_size]; rfl
  rw [if_neg (by omega), txt_cons, hd_txt]
  have := by8_nat z h0 h1
  congr 1; omega
theorem encB_cons (v : Val) (h : okB v = true) : ∃ r, encB v = v.k :: r ∧ 0 ≤ v.k ∧ v.k < 256 ∧ r = (if v.k = 0 then [] else if v.k = 1 then numB v.n 1 else if v.k = 2 then numB (v.n + 4611686018427387904) 8 else numB v.t.size 2 ++ bytesI v.t) := by
  have hk : 0 ≤ v.k ∧ v.k < 256 := by rcases ok_kinds v h with h | h | ⟨h, _⟩ | ⟨h, _⟩ <;> omega
  refine ⟨_, ?_, hk.1, hk.2, rfl⟩
  unfold encB
  rw [numB_one, nb_zero, Int.emod_eq_of_lt hk.1 hk.2]; rfl
theorem ok_parts (v : Val) (h : okB v = true) : (v.k = 0 → v.n = 0 ∧ v.t = em) ∧ (v.k = 1 → 0 ≤ v.n ∧ v.n ≤ 1 ∧ v.t = em) ∧ (v.k = 2 → v.t = em) ∧ (3 ≤ v.k → v.n = 0) := by
  by_cases h4 : v.k = 4
  · obtain ⟨_, _, _, _, hn, _⟩ := (show ∃ e l, 5 = e + 1 ∧ items v.t = some l ∧ v.n = 0 ∧ True from by
      unfold okB at h; rw [fits_list 4 v h4, Bool.and_eq_true, decide_eq_true_eq] at h
      cases hi : items v.t with
      | none => rw [hi] at h; cases h.2
      | some l => exact ⟨4, l, rfl, rfl, h.1.1, trivial⟩)
    exact ⟨by omega, by omega, by omega, fun _ => hn⟩
  · by_cases h5 : v.k = 5
    · unfold okB at h; rw [fits_doc 4 v h5, Bool.and_eq_true, decide_eq_true_eq] at h
      exact ⟨by omega, by omega, by omega, fun _ => h.1.1⟩
    · unfold okB at h
      rw [fits_base 5 v h4 h5] at h
      unfold base at h
      by_cases k0 : v.k = 0
      · rw [if_pos k0, decide_eq_true_eq] at h
        exact ⟨fun _ => ⟨h.1, empty_of _ h.2⟩, by omega, by omega, by omega⟩
      · rw [if_neg k0] at h
        by_cases k1 : v.k = 1
        · rw [if_pos k1, decide_eq_true_eq] at h
          exact ⟨by omega, fun _ => ⟨h.1, h.2.1, empty_of _ h.2.2⟩, by omega, by omega⟩
        · rw [if_neg k1] at h
          by_cases k2 : v.k = 2
          · rw [if_pos k2, decide_eq_true_eq] at h
            exact ⟨by omega, by omega, fun _ => empty_of _ h.2.2, by omega⟩
          · rw [if_neg k2] at h
            by_cases k3 : v.k = 3
            · rw [if_pos k3, decide_eq_true_eq] at h
              exact ⟨by omega, by omega, by omega, fun _ => h.1⟩
            · rw [if_neg k3] at h; cases h
/-- **A value is read back from the head of its bytes, whatever stands behind them.** -/
theorem cutV_enc (v : Val) (h : okB v = true) (r : List Int) : cutV (txt (encB v ++ r)) = some (v, txt r) := by
  obtain ⟨q, e, hk0, hk1, hq⟩ := encB_cons v h
  obtain ⟨p0, p1, p2, p3⟩ := ok_parts v h
  rw [e, List.cons_append, cutV_txt _ _ hk0 hk1]
  have hks := ok_kinds v h
  obtain ⟨k, n, t⟩ := v
  simp only at *
  unfold cutR
  rcases hks with rfl | rfl | ⟨rfl, h1, h2⟩ | ⟨hk, hs⟩
  · obtain ⟨rfl, rfl⟩ := p0 rfl
    rw [hq]; simp
  · obtain ⟨h1, h2, rfl⟩ := p1 rfl
    have hq2 : q = numB n 1 := by rw [hq]; simp
    obtain ⟨m, rfl⟩ : ∃ m : Nat, n = m := ⟨n.toNat, by omega⟩
    have hb : beT (txt (q ++ r)) 1 = m := by rw [hq2, beT_txt _ _ 1 (numB_len _ _).symm, be_numB m 1 (by omega)]
    have hx : (txt (q ++ r)).extract 1 (txt (q ++ r)).size = txt r := by
      have := txt_tail q r; rw [hq2, numB_len] at this; rw [hq2]; exact this
    have hsz : ¬ (txt (q ++ r)).size < 1 := by rw [txt_size, List.length_append, hq2, numB_len]; omega
    rw [if_neg (by decide), if_pos (by decide), if_neg hsz, hb, hx]
  · have ht := p2 rfl
    subst ht
    have hq2 : q = numB (n + 4611686018427387904) 8 := by rw [hq]; simp
    obtain ⟨m, hm⟩ : ∃ m : Nat, n + 4611686018427387904 = m := ⟨(n + 4611686018427387904).toNat, by omega⟩
    rw [hm] at hq2
    have hml : m < 4611687018427387905 := by omega
    have hb : beT (txt (q ++ r)) 8 = m := by rw [hq2, beT_txt _ _ 8 (numB_len _ _).symm, be_numB m 8 (by omega)]
    have hx : (txt (q ++ r)).extract 8 (txt (q ++ r)).size = txt r := by
      have := txt_tail q r; rw [hq2, numB_len] at this; rw [hq2]; exact this
    have hsz : ¬ (txt (q ++ r)).size < 8 := by rw [txt_size, List.length_append, hq2, numB_len]; omega
    have hhd : hd (txt (q ++ r)) ≤ 127 := by
      rw [hq2, show numB (m : Int) 8 = nb m 7 :: [nb m 6, nb m 5, nb m 4, nb m 3, nb m 2, nb m 1, nb m 0] from rfl, List.cons_append, hd_txt, by8_nb]
      omega
    rw [if_neg (by decide), if_neg (by decide), if_pos (by decide), if_neg hsz, if_neg (by omega), hb, hx, ← hm]
    simp
  · have hn := p3 (by rcases hk with rfl | rfl | rfl <;> omega)
    subst hn
    have hq2 : q ++ r = numB (t.size : Int) 2 ++ bytesI t ++ r := by
      rw [hq]; rcases hk with rfl | rfl | rfl <;> simp
    rw [hq2, cutT_txt 2 t r (by omega)]
    rcases hk with rfl | rfl | rfl <;> simp

theorem items_enc : ∀ (l : List Val), (∀ v ∈ l, okB v = true) → items (txt (l.flatMap encB)) = some l
  | [], _ => items_nil (by rw [txt_size]; rfl)
  | v :: l, h => by
    rw [List.flatMap_cons, items_cons (cutV_enc v (h v (by simp)) _), items_enc l (fun u hu => h u (by simp [hu]))]; rfl

end Go.Proofs.YtdchhjnmhnehiaaGreatDoor

/- A right value fits a depth just if it is no deeper; lists and documents made of right values; nothing of the program is used here. -/
namespace Go.Proofs.YtdchhjnmhnehiaaGreatDoor
open Go.RowKit
set_option linter.unusedVariables false

theorem dmax_le (p : Val → Int) (l : List Val) (d : Int) (hd : 0 ≤ d) : dmax p l ≤ d ↔ ∀ v ∈ l, p v ≤ d := by
  suffices h : ∀ (l : List Val) (n : Int), n ≤ d → (l.foldl (fun n v => max n (p v)) n ≤ d ↔ ∀ v ∈ l, p v ≤ d) by
    exact h l 0 hd
  intro l
  induction l with
  | nil => intro n hn; simp [hn]
  | cons v l ih =>
    intro n hn
    rw [List.foldl_cons]
    by_cases hv : p v ≤ d
    · rw [ih (max n (p v)) (by omega)]; simp [hv]
    · constructor
      · intro h
        exfalso
        have hm : ∀ (l : List Val) (n : Int), n ≤ l.foldl (fun n v => max n (p v)) n := by
          intro l
          induction l with
          | nil => intro n; exact Int.le_refl _
          | cons u l ih2 => intro n; exact Int.le_trans (by omega) (ih2 (max n (p u)))
        have := hm l (max n (p v))
        omega
      · intro h; exact absurd (h v (by simp)) hv
theorem dmax_congr (p q : Val → Int) (l : List Val) (h : ∀ v ∈ l, p v = q v) : dmax p l = dmax q l := by
  unfold dmax
  suffices hh : ∀ (l : List Val) (n : Int), (∀ v ∈ l, p v = q v) → l.foldl (fun n v => max n (p v)) n = l.foldl (fun n v => max n (q v)) n by exact hh l 0 h
  intro l
  induction l with
  | nil => intro n _; rfl
  | cons v l ih => intro n hv; rw [List.foldl_cons, List.foldl_cons, hv v (by simp)]; exact ih _ (fun u hu => hv u (by simp [hu]))
theorem rise_swap (p q : Val → Bool) : ∀ (l : List Fld) (m : ByteArray), riseAll p m l = true → (∀ f ∈ l, q f.v = true) → riseAll q m l = true
  | [], _, _, _ => rfl
  | f :: l, m, h, hq => by
    simp only [riseAll, Bool.and_eq_true] at h ⊢
    exact ⟨⟨h.1.1, hq f (by simp)⟩, rise_swap p q l _ h.2 (fun g hg => hq g (by simp [hg]))⟩
/-- At a greater depth the same values fit, and their depth is told the same. -/
theorem fits_depth : ∀ (d : Nat) (v : Val), fits d v = true → ∀ e, d ≤ e → fits e v = true ∧ depthV e v = depthV d v
  | d, v, h, e, hde => by
    by_cases h4 : v.k = 4
    · obtain ⟨d', l, rfl, hi, hn, hs, hall⟩ := fits_items h4 h
      obtain ⟨e', rfl⟩ : ∃ e', e = e' + 1 := ⟨e - 1, by omega⟩
      have ih : ∀ u ∈ l, fits e' u = true ∧ depthV e' u = depthV d' u := fun u hu => fits_depth d' u (hall u hu).1 e' (by omega)
      constructor
      · rw [fits_list e' v h4, hi, Bool.and_eq_true, decide_eq_true_eq]
        exact ⟨⟨hn, hs⟩, by simp only [itemsAll, List.all_eq_true]; exact fun u hu => (ih u hu).1⟩
      · rw [depthV_list e' v l h4 hi, depthV_list d' v l h4 hi]
        congr 1
        exact dmax_congr _ _ l (fun u hu => (ih u hu).2)
    · by_cases h5 : v.k = 5
      · obtain ⟨d', l, rfl, hi, hn, hs, hr, hall⟩ := fits_fields h5 h
        obtain ⟨e', rfl⟩ : ∃ e', e = e' + 1 := ⟨e - 1, by omega⟩
        have ih : ∀ f ∈ l, fits e' f.v = true ∧ depthV e' f.v = depthV d' f.v := fun f hf => fits_depth d' f.v (hall f hf).1 e' (by omega)
        constructor
        · rw [fits_doc e' v h5, hi, Bool.and_eq_true, decide_eq_true_eq]
          exact ⟨⟨hn, hs⟩, rise_swap _ _ l em hr (fun f hf => (ih f hf).1)⟩
        · rw [depthV_doc e' v l h5 hi, depthV_doc d' v l h5 hi]
          unfold dF
          congr 1
          exact dmax_congr _ _ _ (fun u hu => by
            obtain ⟨f, hf, rfl⟩ := List.mem_map.mp hu
            exact (ih f hf).2)
      · rw [fits_base d v h4 h5] at h
        exact ⟨by rw [fits_base e v h4 h5]; exact h, by rw [depthV_plain e v h4 h5, depthV_plain d v h4 h5]⟩

/-- A right value that is no deeper than d fits d. -/
theorem fits_of_depth : ∀ (e d : Nat) (v : Val), fits e v = true → depthV e v ≤ d → fits d v = true
  | e, d, v, h, hd => by
    by_cases hed : e ≤ d
    · exact (fits_depth e v h d hed).1
    · by_cases h4 : v.k = 4
      · obtain ⟨e', l, rfl, hi, hn, hs, hall⟩ := fits_items h4 h
        rw [depthV_list e' v l h4 hi] at hd
        have h0 := (dmax_bd (depthV e') e' (by omega) (depthV_bd e') l).1
        obtain ⟨d', rfl⟩ : ∃ d', d = d' + 1 := ⟨d - 1, by omega⟩
        have hle := (dmax_le (depthV e') l d' (by omega)).mp (by omega)
        rw [fits_list d' v h4, hi, Bool.and_eq_true, decide_eq_true_eq]
        exact ⟨⟨hn, hs⟩, by simp only [itemsAll, List.all_eq_true]; exact fun u hu => fits_of_depth e' d' u (hall u hu).1 (hle u hu)⟩
      · by_cases h5 : v.k = 5
        · obtain ⟨e', l, rfl, hi, hn, hs, hr, hall⟩ := fits_fields h5 h
          rw [depthV_doc e' v l h5 hi] at hd
          unfold dF at hd
          have h0 := (dmax_bd (depthV e') e' (by omega) (depthV_bd e') (l.map Fld.v)).1
          obtain ⟨d', rfl⟩ : ∃ d', d = d' + 1 := ⟨d - 1, by omega⟩
          have hle := (dmax_le (depthV e') (l.map Fld.v) d' (by omega)).mp (by omega)
          rw [fits_doc d' v h5, hi, Bool.and_eq_true, decide_eq_true_eq]
          exact ⟨⟨hn, hs⟩, rise_swap _ _ l em hr (fun f hf => fits_of_depth e' d' f.v (hall f hf).1 (hle f.v (List.mem_map.mpr ⟨f, hf, rfl⟩)))⟩
        · rw [fits_base e v h4 h5] at h
          rw [fits_base d v h4 h5]; exact h
/-- **A list made of right values is right just if none of them is too deep.** -/
theorem list_made (l : List Val) (hall : ∀ v ∈ l, okB v = true) (hs : (l.flatMap encB).length ≤ 300) :
    okB ⟨4, 0, txt (l.flatMap encB)⟩ = decide (dmax (depthV 5) l ≤ 4) := by
  have hsz : (txt (l.flatMap encB)).size ≤ 300 := by rw [txt_size]; exact hs
  unfold okB
  rw [fits_list 4 _ rfl]
  show (decide ((0 : Int) = 0 ∧ (txt (l.flatMap encB)).size ≤ 300) && itemsAll (fits 4) (items (txt (l.flatMap encB)))) = _
  rw [items_enc l hall, decide_eq_true ⟨rfl, hsz⟩, Bool.true_and]
  rw [Bool.eq_iff_iff, decide_eq_true_eq, dmax_le (depthV 5) l 4 (by omega)]
  simp only [itemsAll, List.all_eq_true]
  constructor
  · intro h v hv
    have h1 := fits_depth 4 v (h v hv) 5 (by omega)
    have h2 := (depthV_bd 4 v).2
    rw [h1.2]; exact_mod_cast h2
  · intro h v hv
    exact fits_of_depth 5 4 v (hall v hv) (by exact_mod_cast h v hv)

def encF (f : Fld) : List Int := numB f.name.size 1 ++ bytesI f.name ++ encB f.v
theorem cutF_enc (f : Fld) (h : okB f.v = true) (hn : f.name.size < 256) (r : List Int) : cutF (txt (encF f ++ r)) = some (f, txt r) := by
  unfold cutF encF
  rw [List.append_assoc (numB _ 1 ++ bytesI f.name), cutT_txt 1 f.name _ (by omega)]
  simp only [cutV_enc f.v h r]
  rfl
theorem fields_enc : ∀ (l : List Fld), (∀ f ∈ l, okB f.v = true ∧ f.name.size < 256) → fields (txt (l.flatMap encF)) = some l
  | [], _ => fields_nil (by rw [txt_size]; rfl)
  | f :: l, h => by
    rw [List.flatMap_cons, fields_cons (cutF_enc f (h f (by simp)).1 (h f (by simp)).2 _), fields_enc l (fun u hu => h u (by simp [hu]))]; rfl
/-- **A document made of right values under short names that rise is right just if none of them is too deep.** -/
theorem doc_made (l : List Fld) (hall : ∀ f ∈ l, okB f.v = true) (hr : riseAll (fun _ => true) em l = true) (hs : (l.flatMap encF).length ≤ 300) :
    okB ⟨5, 0, txt (l.flatMap encF)⟩ = decide (dF (depthV 5) l ≤ 4) := by
  have hsz : (txt (l.flatMap encF)).size ≤ 300 := by rw [txt_size]; exact hs
  have hnm : ∀ f ∈ l, okB f.v = true ∧ f.name.size < 256 := fun f hf => ⟨hall f hf, by
    have := (rise_all _ l em hr f hf).1
    unfold shortB at this
    rw [Bool.and_eq_true, decide_eq_true_eq] at this
    omega⟩
  unfold okB
  rw [fits_doc 4 _ rfl]
  show (decide ((0 : Int) = 0 ∧ (txt (l.flatMap encF)).size ≤ 300) && fieldsAll (fits 4) em (fields (txt (l.flatMap encF)))) = _
  rw [fields_enc l hnm, decide_eq_true ⟨rfl, hsz⟩, Bool.true_and]
  show riseAll (fits 4) em l = _
  unfold dF
  rw [Bool.eq_iff_iff, decide_eq_true_eq, dmax_le (depthV 5) (l.map Fld.v) 4 (by omega)]
  constructor
  · intro h v hv
    obtain ⟨f, hf, rfl⟩ := List.mem_map.mp hv
    have h1 := fits_depth 4 f.v (rise_all _ l em h f hf).2 5 (by omega)
    have h2 := (depthV_bd 4 f.v).2
    rw [h1.2]; exact_mod_cast h2
  · intro h
    exact rise_swap _ _ l em hr (fun f hf => fits_of_depth 5 4 f.v (hall f hf) (by exact_mod_cast h f.v (List.mem_map.mpr ⟨f, hf, rfl⟩)))

end Go.Proofs.YtdchhjnmhnehiaaGreatDoor

/- What a term lets in, said plainly. Nothing of the program is used here. -/
namespace Go.Proofs.YtdchhjnmhnehiaaGreatDoor
open Go.RowKit
set_option linter.unusedVariables false

instance : DecidableEq Val := fun a b =>
  if h : a.k = b.k ∧ a.n = b.n ∧ a.t = b.t then isTrue (val_ext h.1 h.2.1 h.2.2) else isFalse (fun e => h (by subst e; exact ⟨rfl, rfl, rfl⟩))
/-- Does one value do what a term asks. -/
def oneT (op : Int) (c v : Val) : Bool :=
  if op = 1 ∨ op = 2 then decide (v = c)
  else if op = 3 then decide (v.k = c.k) && decide (ordV 5 v c < 0)
  else if op = 4 then decide (v.k = c.k) && decide (ordV 5 v c ≤ 0)
  else if op = 5 then decide (v.k = c.k) && decide (0 < ordV 5 v c)
  else if op = 6 then decide (v.k = c.k) && decide (0 ≤ ordV 5 v c)
  else if op = 7 then (itms c).any (fun u => decide (u = v))
  else if op = 9 then decide (v.k = c.n)
  else if op = 10 then decide (v.k = 4) && decide (((itms v).length : Int) = c.n)
  else true
def fitsO (op o : Int) : Bool := if op = 3 then decide (o < 0) else if op = 4 then decide (o ≤ 0) else if op = 5 then decide (0 < o) else decide (0 ≤ o)
theorem oneT_ord (op : Int) (c v : Val) (h : op = 3 ∨ op = 4 ∨ op = 5 ∨ op = 6) : oneT op c v = (decide (v.k = c.k) && fitsO op (ordV 5 v c)) := by
  rcases h with rfl | rfl | rfl | rfl <;> simp [oneT, fitsO]
/-- What is held against a term: null where nothing is, but for type. -/
def heldT (op : Int) (l : List Val) : List Val := if l = [] then (if op = 9 then [] else [⟨0, 0, em⟩]) else l
/-- Does a term let in a document in which its path comes to these values. -/
def letsT (op : Int) (c : Val) (l : List Val) : Bool :=
  if op = 8 then (decide (0 < (l.length : Int)) == decide (c.n = 1)) else ((heldT op l).any (oneT op c) != decide (op = 2))
/-- Does a term let in a document. -/
def termL (op : Int) (p : ByteArray) (c doc : Val) : Bool := letsT op c (getP (pieces p) doc)
/-- Is a value a right document. -/
def docB (v : Val) : Bool := decide (v.k = 5) && okB v
theorem getP_ok : ∀ (ws : List ByteArray) (v : Val), okB v = true → ∀ u ∈ getP ws v, okB u = true
  | [], v, h, u, hu => by
    rw [getP_end] at hu
    rcases List.mem_cons.mp hu with rfl | hu
    · exact h
    · split at hu
      · rename_i h4
        obtain ⟨_, _, _, d', hd, hall⟩ := list_parts 5 v h h4
        exact (fits_depth d' u (hall u hu).1 5 (by omega)).1
      · cases hu
  | nm :: ws, v, h, u, hu => by
    have ih := getP_ok ws
    have hdoc : ∀ x : Val, okB x = true → x.k = 5 → ∀ u ∈ docP (getP ws) nm x, okB u = true := by
      intro x hx h5 u hu
      obtain ⟨_, _, _, _, d', hd, hall, _⟩ := doc_parts 5 x hx h5
      cases hfv : fieldV nm (flds x) with
      | none => rw [docP_none _ _ _ hfv] at hu; cases hu
      | some y =>
        rw [docP_some _ _ _ y hfv] at hu
        obtain ⟨f, hf, rfl⟩ := fieldV_mem nm y _ hfv
        exact ih f.v (fits_depth d' f.v (hall f hf).1 5 (by omega)).1 u hu
    by_cases h5 : v.k = 5
    · rw [getP_doc nm ws v h5] at hu
      exact hdoc v h h5 u hu
    · by_cases h4 : v.k = 4
      · rw [getP_list nm ws v h4] at hu
        obtain ⟨it, hit, hu⟩ := List.mem_flatMap.mp hu
        obtain ⟨_, _, _, d', hd, hall⟩ := list_parts 5 v h h4
        have hok : okB it = true := (fits_depth d' it (hall it hit).1 5 (by omega)).1
        split at hu
        · rename_i h5'
          exact hdoc it hok h5' u hu
        · cases hu
      · rw [getP_none nm ws v h5 h4] at hu; cases hu
theorem ok_zero : okB ⟨0, 0, em⟩ = true := by
  unfold okB; rw [fits_base 5 _ (by show (0 : Int) ≠ 4; decide) (by show (0 : Int) ≠ 5; decide)]; rfl
theorem heldT_ok (op : Int) (l : List Val) (h : ∀ u ∈ l, okB u = true) : ∀ u ∈ heldT op l, okB u = true := by
  intro u hu
  unfold heldT at hu
  split at hu
  · split at hu
    · cases hu
    · simp at hu; subst hu; exact ok_zero
  · exact h u hu
theorem ok_size (v : Val) (h : okB v = true) : v.t.size ≤ 300 := by
  rcases Nat.lt_or_ge 300 v.t.size with h' | h'
  · rw [ok_big v h'] at h; cases h
  · exact h'
theorem ok_items (v : Val) (h : okB v = true) (h4 : v.k = 4) : items v.t = some (itms v) ∧ (itms v).length ≤ 300 ∧ ∀ u ∈ itms v, okB u = true := by
  obtain ⟨_, hi, hl, d', hd, hall⟩ := list_parts 5 v h h4
  exact ⟨hi, hl, fun u hu => (fits_depth d' u (hall u hu).1 5 (by omega)).1⟩

end Go.Proofs.YtdchhjnmhnehiaaGreatDoor
