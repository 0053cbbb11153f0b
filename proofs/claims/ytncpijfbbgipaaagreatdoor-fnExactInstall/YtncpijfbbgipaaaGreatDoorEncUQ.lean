/- Which kinds right values are of, and how a right value is laid into bytes. -/
import Derived.Test.YtncpijfbbgipaaaGreatDoorEncI
import Derived.Laws.IdiomStrings
import Derived.Test.YtncpijfbbgipaaaGreatDoorDepthM
import Derived.Test.YtncpijfbbgipaaaGreatDoorLawB
import Derived.Test.YtncpijfbbgipaaaGreatDoorLawVal
import Derived.Test.YtncpijfbbgipaaaGreatDoorUnder
import Derived.Lib.Walk
import Derived.Lib.BufferWrite
import Derived.Lib.UnsafeStr
import Derived.Laws.MakeOwn
import Derived.Test.YtncpijfbbgipaaaGreatDoorOrdM
import Derived.Test.YtncpijfbbgipaaaGreatDoorGetM
import Derived.Test.YtncpijfbbgipaaaGreatDoorSplitM
namespace Go.Proofs.YtncpijfbbgipaaaGreatDoor
open Go.RowKit
set_option linter.unusedVariables false

theorem ok_kinds (v : Val) (h : okB v = true) : v.k = 0 ∨ v.k = 1 ∨ (v.k = 2 ∧ -1000000000000 ≤ v.n ∧ v.n ≤ 1000000000000) ∨ ((v.k = 3 ∨ v.k = 4 ∨ v.k = 5) ∧ v.t.size ≤ 300) := by
  have hs : v.t.size ≤ 300 := by
    rcases Nat.lt_or_ge 300 v.t.size with h' | h'
    · rw [ok_big v h'] at h; cases h
    · exact h'
  by_cases h4 : v.k = 4
  · exact .inr (.inr (.inr ⟨.inr (.inl h4), hs⟩))
  · by_cases h5 : v.k = 5
    · exact .inr (.inr (.inr ⟨.inr (.inr h5), hs⟩))
    · unfold okB at h
      rw [fits_base 5 v h4 h5] at h
      unfold base at h
      by_cases k0 : v.k = 0
      · exact .inl k0
      · rw [if_neg k0] at h
        by_cases k1 : v.k = 1
        · exact .inr (.inl k1)
        · rw [if_neg k1] at h
          by_cases k2 : v.k = 2
          · rw [if_pos k2, decide_eq_true_eq] at h
            exact .inr (.inr (.inl ⟨k2, h.1, h.2.1⟩))
          · rw [if_neg k2] at h
            by_cases k3 : v.k = 3
            · exact .inr (.inr (.inr ⟨.inl k3, hs⟩))
            · rw [if_neg k3] at h; cases h

theorem encB_len (v : Val) (h : okB v = true) : 1 ≤ (encB v).length ∧ (encB v).length ≤ 400 := by
  obtain ⟨k, n, t⟩ := v
  rcases ok_kinds _ h with h | h | ⟨h, _⟩ | ⟨h, hs⟩
  · simp at h; subst h; unfold encB; simp [numB_len]
  · simp at h; subst h; unfold encB; simp [numB_len]
  · simp at h; subst h; unfold encB; simp [numB_len]
  · simp at h hs
    rcases h with rfl | rfl | rfl <;> (unfold encB; simp [numB_len, bytesI_len]; omega)

theorem nb_range (n : Int) (j : Nat) : 0 ≤ nb n j ∧ nb n j < 256 := by unfold nb; omega
theorem numB_range (n : Int) (wd : Nat) : ∀ z ∈ numB n wd, 0 ≤ z ∧ z < 256 := by
  intro z hz
  unfold numB numK at hz
  obtain ⟨j, _, rfl⟩ := List.mem_map.mp hz
  exact nb_range _ _
theorem bytesI_range (t : ByteArray) : ∀ z ∈ bytesI t, 0 ≤ z ∧ z < 256 := by
  intro z hz
  unfold bytesI at hz
  obtain ⟨c, _, rfl⟩ := List.mem_map.mp hz
  have := c.toNat_lt
  omega
theorem encB_range (v : Val) : ∀ z ∈ encB v, 0 ≤ z ∧ z < 256 := by
  intro z hz
  unfold encB at hz
  rcases List.mem_append.mp hz with h | h
  · exact numB_range _ _ z h
  · split at h
    · cases h
    · split at h
      · exact numB_range _ _ z h
      · split at h
        · exact numB_range _ _ z h
        · rcases List.mem_append.mp h with h | h
          · exact numB_range _ _ z h
          · exact bytesI_range _ z h
theorem bytesRow_get (zs : List Int) (hr : ∀ z ∈ zs, 0 ≤ z ∧ z < 256) (cap i : Nat) (hi : i < zs.length) : (bytesRow (txt zs) cap)[i]? = some (.int .u8 (zs.getD i 0)) := by
  have e1 : (txt zs).data.size = zs.length := by simp [txt, strOfNums]
  unfold bytesRow
  rw [Array.getElem?_append_left (by simp [e1]; exact hi), Array.getElem?_map]
  have e2 : (txt zs).data[i]? = some (UInt8.ofNat (zs[i]).toNat) := by simp [txt, strOfNums, hi]
  rw [e2, List.getD_eq_getElem?_getD, List.getElem?_eq_getElem hi]
  have := hr zs[i] (List.getElem_mem _)
  simp only [Option.map_some, Option.getD_some]
  congr 2
  rw [UInt8.toNat_ofNat_of_lt' (by show (zs[i]).toNat < 256; omega)]
  omega

end Go.Proofs.YtncpijfbbgipaaaGreatDoor

/- Values are read back from their bytes, said plainly: nothing of the program is used here. -/
namespace Go.Proofs.YtncpijfbbgipaaaGreatDoor
open Go.RowKit
set_option linter.unusedVariables false

def by8 (z : Int) : UInt8 := UInt8.ofNat z.toNat
theorem txt_list (zs : List Int) : (txt zs).data.toList = zs.map by8 := strOfNums_data zs
theorem by8_nat (z : Int) (h0 : 0 ≤ z) (h1 : z < 256) : ((by8 z).toNat : Int) = z := by
  unfold by8
  rw [UInt8.toNat_ofNat_of_lt' (by show z.toNat < 256; omega)]
  omega
theorem pow8 (j : Nat) : (2 : Int) ^ (8 * j) = ((256 ^ j : Nat) : Int) := by
  rw [Int.pow_mul]; norm_cast
theorem by8_nb (n j : Nat) : (by8 (nb n j)).toNat = n / 256 ^ j % 256 := by
  have h := nb_range n j
  have e := by8_nat (nb n j) h.1 h.2
  have e2 : nb (n : Int) j = ((n / 256 ^ j % 256 : Nat) : Int) := by
    unfold nb; rw [pow8, Int.natCast_emod, Int.natCast_ediv]; rfl
  rw [e2] at e ⊢
  exact_mod_cast e
theorem be_num (n wd : Nat) : ∀ k, k ≤ wd → n < 256 ^ wd → beL ((numK (n : Int) wd k).map by8) = n / 256 ^ (wd - k)
  | 0, _, h => by rw [numK_zero, Nat.sub_zero, Nat.div_eq_of_lt h]; rfl
  | k + 1, hk, h => by
    rw [numK_succ, List.map_append, List.map_cons, List.map_nil, beL_snoc, be_num n wd k (by omega) h, by8_nb]
    have e : wd - k = (wd - 1 - k) + 1 := by omega
    have e2 : wd - (k + 1) = wd - 1 - k := by omega
    rw [e, e2, Nat.pow_succ, ← Nat.div_div_eq_div_mul]
    have := Nat.div_add_mod (n / 256 ^ (wd - 1 - k)) 256
    omega
theorem be_numB (n wd : Nat) (h : n < 256 ^ wd) : beL ((numB (n : Int) wd).map by8) = n := by
  unfold numB; rw [be_num n wd wd (Nat.le_refl _) h]; simp

theorem txt_cut (a b c : List Int) : (txt (a ++ b ++ c)).extract a.length (a.length + b.length) = txt b := by
  apply ByteArray.ext; apply Array.ext'
  rw [extract_list, txt_list, txt_list]
  simp
theorem txt_tail (a b : List Int) : (txt (a ++ b)).extract a.length (txt (a ++ b)).size = txt b := by
  have := txt_cut a b []
  rw [List.append_nil] at this
  rw [txt_size, List.length_append]; exact this
theorem beT_txt (a b : List Int) (k : Nat) (h : k = a.length) : beT (txt (a ++ b)) k = beL (a.map by8) := by
  unfold beT; rw [txt_list, h]; simp
theorem cutT_txt (wd : Nat) (t : ByteArray) (r : List Int) (h : t.size < 256 ^ wd) : cutT (txt (numB t.size wd ++ bytesI t ++ r)) wd = some (t, txt r) := by
  have hb : beT (txt (numB (t.size : Int) wd ++ bytesI t ++ r)) wd = t.size := by
    rw [List.append_assoc, beT_txt _ _ wd (numB_len _ _).symm, be_numB _ _ h]
  have hsz : (txt (numB (t.size : Int) wd ++ bytesI t ++ r)).size = wd + t.size + r.length := by
    rw [txt_size]; simp [numB_len, bytesI_len]; omega
  unfold cutT
  rw [hb, if_neg (by omega), if_neg (by omega)]
  have e1 := txt_cut (numB (t.size : Int) wd) (bytesI t) r
  rw [numB_len, bytesI_len, txt_bytes] at e1
  have e2 := txt_tail (numB (t.size : Int) wd ++ bytesI t) r
  rw [List.length_append, numB_len, bytesI_len] at e2
  rw [e1, e2]

theorem txt_cons (z : Int) (r : List Int) : (txt (z :: r)).extract 1 (txt (z :: r)).size = txt r := txt_tail [z] r
theorem hd_txt (z : Int) (r : List Int) : hd (txt (z :: r)) = (by8 z).toNat := by unfold hd; rw [txt_list]; rfl
theorem cutV_txt (z : Int) (r : List Int) (h0 : 0 ≤ z) (h1 : z < 256) : cutV (txt (z :: r)) = cutR z.toNat (txt r) := by
  unfold cutV
  have hs : (txt (z :: r)).size = r.length + 1 := by rw [txt_size]; rfl
  rw [if_neg (by omega), txt_cons, hd_txt]
  have := by8_nat z h0 h1
  congr 1; omega
theorem encB_cons (v : Val) (h : okB v = true) : ∃ r, encB v = v.k :: r ∧ 0 ≤ v.k ∧ v.k < 256 ∧ r = (if v.k = 0 then [] else if v.k = 1 then numB v.n 1 else if v.k = 2 then numB (v.n + 4611686018427387904) 8 else numB v.t.size 2 ++ bytesI v.t) := by
  have hk : 0 ≤ v.k ∧ v.k < 256 := by rcases ok_kinds v h with h | h | ⟨h, _⟩ | ⟨h, _⟩ <;> omega
  refine ⟨_, ?_, hk.1, hk.2, rfl⟩
  unfold encB
  rw [numB_one, nb_zero, Int.emod_eq_of_lt hk.1 hk.2]; rfl
theorem ok_parts (v : Val) (h : okB v = true) : (v.k = 0 → v.n = 0 ∧ v.t = em) ∧ (v.k = 1 → 0 ≤ v.n ∧ v.n ≤ 1 ∧ v.t = em) ∧ (v.k = 2 → v.t = em) ∧ (3 ≤ v.k → v.n = 0) := by
  by_cases h4 : v.k = 4
  · obtain ⟨_, _, _, _, hn, _⟩ := (show ∃ e l, 5 = e + 1 ∧ items v.t = some l ∧ v.n = 0 ∧ True from by
      unfold okB at h; rw [fits_list 4 v h4, Bool.and_eq_true, decide_eq_true_eq] at h
      cases hi : items v.t with
      | none => rw [hi] at h; cases h.2
      | some l => exact ⟨4, l, rfl, rfl, h.1.1, trivial⟩)
    exact ⟨by omega, by omega, by omega, fun _ => hn⟩
  · by_cases h5 : v.k = 5
    · unfold okB at h; rw [fits_doc 4 v h5, Bool.and_eq_true, decide_eq_true_eq] at h
      exact ⟨by omega, by omega, by omega, fun _ => h.1.1⟩
    · unfold okB at h
      rw [fits_base 5 v h4 h5] at h
      unfold base at h
      by_cases k0 : v.k = 0
      · rw [if_pos k0, decide_eq_true_eq] at h
        exact ⟨fun _ => ⟨h.1, empty_of _ h.2⟩, by omega, by omega, by omega⟩
      · rw [if_neg k0] at h
        by_cases k1 : v.k = 1
        · rw [if_pos k1, decide_eq_true_eq] at h
          exact ⟨by omega, fun _ => ⟨h.1, h.2.1, empty_of _ h.2.2⟩, by omega, by omega⟩
        · rw [if_neg k1] at h
          by_cases k2 : v.k = 2
          · rw [if_pos k2, decide_eq_true_eq] at h
            exact ⟨by omega, by omega, fun _ => empty_of _ h.2.2, by omega⟩
          · rw [if_neg k2] at h
            by_cases k3 : v.k = 3
            · rw [if_pos k3, decide_eq_true_eq] at h
              exact ⟨by omega, by omega, by omega, fun _ => h.1⟩
            · rw [if_neg k3] at h; cases h
/-- **A value is read back from the head of its bytes, whatever stands behind them.** -/
theorem cutV_enc (v : Val) (h : okB v = true) (r : List Int) : cutV (txt (encB v ++ r)) = some (v, txt r) := by
  obtain ⟨q, e, hk0, hk1, hq⟩ := encB_cons v h
  obtain ⟨p0, p1, p2, p3⟩ := ok_parts v h
  rw [e, List.cons_append, cutV_txt _ _ hk0 hk1]
  have hks := ok_kinds v h
  obtain ⟨k, n, t⟩ := v
  simp only at *
  unfold cutR
  rcases hks with rfl | rfl | ⟨rfl, h1, h2⟩ | ⟨hk, hs⟩
  · obtain ⟨rfl, rfl⟩ := p0 rfl
    rw [hq]; simp
  · obtain ⟨h1, h2, rfl⟩ := p1 rfl
    have hq2 : q = numB n 1 := by rw [hq]; simp
    obtain ⟨m, rfl⟩ : ∃ m : Nat, n = m := ⟨n.toNat, by omega⟩
    have hb : beT (txt (q ++ r)) 1 = m := by rw [hq2, beT_txt _ _ 1 (numB_len _ _).symm, be_numB m 1 (by omega)]
    have hx : (txt (q ++ r)).extract 1 (txt (q ++ r)).size = txt r := by
      have := txt_tail q r; rw [hq2, numB_len] at this; rw [hq2]; exact this
    have hsz : ¬ (txt (q ++ r)).size < 1 := by rw [txt_size, List.length_append, hq2, numB_len]; omega
    rw [if_neg (by decide), if_pos (by decide), if_neg hsz, hb, hx]
  · have ht := p2 rfl
    subst ht
    have hq2 : q = numB (n + 4611686018427387904) 8 := by rw [hq]; simp
    obtain ⟨m, hm⟩ : ∃ m : Nat, n + 4611686018427387904 = m := ⟨(n + 4611686018427387904).toNat, by omega⟩
    rw [hm] at hq2
    have hml : m < 4611687018427387905 := by omega
    have hb : beT (txt (q ++ r)) 8 = m := by rw [hq2, beT_txt _ _ 8 (numB_len _ _).symm, be_numB m 8 (by omega)]
    have hx : (txt (q ++ r)).extract 8 (txt (q ++ r)).size = txt r := by
      have := txt_tail q r; rw [hq2, numB_len] at this; rw [hq2]; exact this
    have hsz : ¬ (txt (q ++ r)).size < 8 := by rw [txt_size, List.length_append, hq2, numB_len]; omega
    have hhd : hd (txt (q ++ r)) ≤ 127 := by
      rw [hq2, show numB (m : Int) 8 = nb m 7 :: [nb m 6, nb m 5, nb m 4, nb m 3, nb m 2, nb m 1, nb m 0] from rfl, List.cons_append, hd_txt, by8_nb]
      omega
    rw [if_neg (by decide), if_neg (by decide), if_pos (by decide), if_neg hsz, if_neg (by omega), hb, hx, ← hm]
    simp
  · have hn := p3 (by rcases hk with rfl | rfl | rfl <;> omega)
    subst hn
    have hq2 : q ++ r = numB (t.size : Int) 2 ++ bytesI t ++ r := by
      rw [hq]; rcases hk with rfl | rfl | rfl <;> simp
    rw [hq2, cutT_txt 2 t r (by omega)]
    rcases hk with rfl | rfl | rfl <;> simp

theorem items_enc : ∀ (l : List Val), (∀ v ∈ l, okB v = true) → items (txt (l.flatMap encB)) = some l
  | [], _ => items_nil (by rw [txt_size]; rfl)
  | v :: l, h => by
    rw [List.flatMap_cons, items_cons (cutV_enc v (h v (by simp)) _), items_enc l (fun u hu => h u (by simp [hu]))]; rfl

end Go.Proofs.YtncpijfbbgipaaaGreatDoor

/- A right value fits a depth just if it is no deeper; lists and documents made of right values; nothing of the program is used here. -/
namespace Go.Proofs.YtncpijfbbgipaaaGreatDoor
open Go.RowKit
set_option linter.unusedVariables false

theorem dmax_le (p : Val → Int) (l : List Val) (d : Int) (hd : 0 ≤ d) : dmax p l ≤ d ↔ ∀ v ∈ l, p v ≤ d := by
  suffices h : ∀ (l : List Val) (n : Int), n ≤ d → (l.foldl (fun n v => max n (p v)) n ≤ d ↔ ∀ v ∈ l, p v ≤ d) by
    exact h l 0 hd
  intro l
  induction l with
  | nil => intro n hn; simp [hn]
  | cons v l ih =>
    intro n hn
    rw [List.foldl_cons]
    by_cases hv : p v ≤ d
    · rw [ih (max n (p v)) (by omega)]; simp [hv]
    · constructor
      · intro h
        exfalso
        have hm : ∀ (l : List Val) (n : Int), n ≤ l.foldl (fun n v => max n (p v)) n := by
          intro l
          induction l with
          | nil => intro n; exact Int.le_refl _
          | cons u l ih2 => intro n; exact Int.le_trans (by omega) (ih2 (max n (p u)))
        have := hm l (max n (p v))
        omega
      · intro h; exact absurd (h v (by simp)) hv
theorem dmax_congr (p q : Val → Int) (l : List Val) (h : ∀ v ∈ l, p v = q v) : dmax p l = dmax q l := by
  unfold dmax
  suffices hh : ∀ (l : List Val) (n : Int), (∀ v ∈ l, p v = q v) → l.foldl (fun n v => max n (p v)) n = l.foldl (fun n v => max n (q v)) n by exact hh l 0 h
  intro l
  induction l with
  | nil => intro n _; rfl
  | cons v l ih => intro n hv; rw [List.foldl_cons, List.foldl_cons, hv v (by simp)]; exact ih _ (fun u hu => hv u (by simp [hu]))
theorem rise_swap (p q : Val → Bool) : ∀ (l : List Fld) (m : ByteArray), riseAll p m l = true → (∀ f ∈ l, q f.v = true) → riseAll q m l = true
  | [], _, _, _ => rfl
  | f :: l, m, h, hq => by
    simp only [riseAll, Bool.and_eq_true] at h ⊢
    exact ⟨⟨h.1.1, hq f (by simp)⟩, rise_swap p q l _ h.2 (fun g hg => hq g (by simp [hg]))⟩
/-- At a greater depth the same values fit, and their depth is told the same. -/
theorem fits_depth : ∀ (d : Nat) (v : Val), fits d v = true → ∀ e, d ≤ e → fits e v = true ∧ depthV e v = depthV d v
  | d, v, h, e, hde => by
    by_cases h4 : v.k = 4
    · obtain ⟨d', l, rfl, hi, hn, hs, hall⟩ := fits_items h4 h
      obtain ⟨e', rfl⟩ : ∃ e', e = e' + 1 := ⟨e - 1, by omega⟩
      have ih : ∀ u ∈ l, fits e' u = true ∧ depthV e' u = depthV d' u := fun u hu => fits_depth d' u (hall u hu).1 e' (by omega)
      constructor
      · rw [fits_list e' v h4, hi, Bool.and_eq_true, decide_eq_true_eq]
        exact ⟨⟨hn, hs⟩, by simp only [itemsAll, List.all_eq_true]; exact fun u hu => (ih u hu).1⟩
      · rw [depthV_list e' v l h4 hi, depthV_list d' v l h4 hi]
        congr 1
        exact dmax_congr _ _ l (fun u hu => (ih u hu).2)
    · by_cases h5 : v.k = 5
      · obtain ⟨d', l, rfl, hi, hn, hs, hr, hall⟩ := fits_fields h5 h
        obtain ⟨e', rfl⟩ : ∃ e', e = e' + 1 := ⟨e - 1, by omega⟩
        have ih : ∀ f ∈ l, fits e' f.v = true ∧ depthV e' f.v = depthV d' f.v := fun f hf => fits_depth d' f.v (hall f hf).1 e' (by omega)
        constructor
        · rw [fits_doc e' v h5, hi, Bool.and_eq_true, decide_eq_true_eq]
          exact ⟨⟨hn, hs⟩, rise_swap _ _ l em hr (fun f hf => (ih f hf).1)⟩
        · rw [depthV_doc e' v l h5 hi, depthV_doc d' v l h5 hi]
          unfold dF
          congr 1
          exact dmax_congr _ _ _ (fun u hu => by
            obtain ⟨f, hf, rfl⟩ := List.mem_map.mp hu
            exact (ih f hf).2)
      · rw [fits_base d v h4 h5] at h
        exact ⟨by rw [fits_base e v h4 h5]; exact h, by rw [depthV_plain e v h4 h5, depthV_plain d v h4 h5]⟩

/-- A right value that is no deeper than d fits d. -/
theorem fits_of_depth : ∀ (e d : Nat) (v : Val), fits e v = true → depthV e v ≤ d → fits d v = true
  | e, d, v, h, hd => by
    by_cases hed : e ≤ d
    · exact (fits_depth e v h d hed).1
    · by_cases h4 : v.k = 4
      · obtain ⟨e', l, rfl, hi, hn, hs, hall⟩ := fits_items h4 h
        rw [depthV_list e' v l h4 hi] at hd
        have h0 := (dmax_bd (depthV e') e' (by omega) (depthV_bd e') l).1
        obtain ⟨d', rfl⟩ : ∃ d', d = d' + 1 := ⟨d - 1, by omega⟩
        have hle := (dmax_le (depthV e') l d' (by omega)).mp (by omega)
        rw [fits_list d' v h4, hi, Bool.and_eq_true, decide_eq_true_eq]
        exact ⟨⟨hn, hs⟩, by simp only [itemsAll, List.all_eq_true]; exact fun u hu => fits_of_depth e' d' u (hall u hu).1 (hle u hu)⟩
      · by_cases h5 : v.k = 5
        · obtain ⟨e', l, rfl, hi, hn, hs, hr, hall⟩ := fits_fields h5 h
          rw [depthV_doc e' v l h5 hi] at hd
          unfold dF at hd
          have h0 := (dmax_bd (depthV e') e' (by omega) (depthV_bd e') (l.map Fld.v)).1
          obtain ⟨d', rfl⟩ : ∃ d', d = d' + 1 := ⟨d - 1, by omega⟩
          have hle := (dmax_le (depthV e') (l.map Fld.v) d' (by omega)).mp (by omega)
          rw [fits_doc d' v h5, hi, Bool.and_eq_true, decide_eq_true_eq]
          exact ⟨⟨hn, hs⟩, rise_swap _ _ l em hr (fun f hf => fits_of_depth e' d' f.v (hall f hf).1 (hle f.v (List.mem_map.mpr ⟨f, hf, rfl⟩)))⟩
        · rw [fits_base e v h4 h5] at h
          rw [fits_base d v h4 h5]; exact h
/-- **A list made of right values is right just if none of them is too deep.** -/
theorem list_made (l : List Val) (hall : ∀ v ∈ l, okB v = true) (hs : (l.flatMap encB).length ≤ 300) :
    okB ⟨4, 0, txt (l.flatMap encB)⟩ = decide (dmax (depthV 5) l ≤ 4) := by
  have hsz : (txt (l.flatMap encB)).size ≤ 300 := by rw [txt_size]; exact hs
  unfold okB
  rw [fits_list 4 _ rfl]
  show (decide ((0 : Int) = 0 ∧ (txt (l.flatMap encB)).size ≤ 300) && itemsAll (fits 4) (items (txt (l.flatMap encB)))) = _
  rw [items_enc l hall, decide_eq_true ⟨rfl, hsz⟩, Bool.true_and]
  rw [Bool.eq_iff_iff, decide_eq_true_eq, dmax_le (depthV 5) l 4 (by omega)]
  simp only [itemsAll, List.all_eq_true]
  constructor
  · intro h v hv
    have h1 := fits_depth 4 v (h v hv) 5 (by omega)
    have h2 := (depthV_bd 4 v).2
    rw [h1.2]; exact_mod_cast h2
  · intro h v hv
    exact fits_of_depth 5 4 v (hall v hv) (by exact_mod_cast h v hv)

def encF (f : Fld) : List Int := numB f.name.size 1 ++ bytesI f.name ++ encB f.v
theorem cutF_enc (f : Fld) (h : okB f.v = true) (hn : f.name.size < 256) (r : List Int) : cutF (txt (encF f ++ r)) = some (f, txt r) := by
  unfold cutF encF
  rw [List.append_assoc (numB _ 1 ++ bytesI f.name), cutT_txt 1 f.name _ (by omega)]
  simp only [cutV_enc f.v h r]
  rfl
theorem fields_enc : ∀ (l : List Fld), (∀ f ∈ l, okB f.v = true ∧ f.name.size < 256) → fields (txt (l.flatMap encF)) = some l
  | [], _ => fields_nil (by rw [txt_size]; rfl)
  | f :: l, h => by
    rw [List.flatMap_cons, fields_cons (cutF_enc f (h f (by simp)).1 (h f (by simp)).2 _), fields_enc l (fun u hu => h u (by simp [hu]))]; rfl
/-- **A document made of right values under short names that rise is right just if none of them is too deep.** -/
theorem doc_made (l : List Fld) (hall : ∀ f ∈ l, okB f.v = true) (hr : riseAll (fun _ => true) em l = true) (hs : (l.flatMap encF).length ≤ 300) :
    okB ⟨5, 0, txt (l.flatMap encF)⟩ = decide (dF (depthV 5) l ≤ 4) := by
  have hsz : (txt (l.flatMap encF)).size ≤ 300 := by rw [txt_size]; exact hs
  have hnm : ∀ f ∈ l, okB f.v = true ∧ f.name.size < 256 := fun f hf => ⟨hall f hf, by
    have := (rise_all _ l em hr f hf).1
    unfold shortB at this
    rw [Bool.and_eq_true, decide_eq_true_eq] at this
    omega⟩
  unfold okB
  rw [fits_doc 4 _ rfl]
  show (decide ((0 : Int) = 0 ∧ (txt (l.flatMap encF)).size ≤ 300) && fieldsAll (fits 4) em (fields (txt (l.flatMap encF)))) = _
  rw [fields_enc l hnm, decide_eq_true ⟨rfl, hsz⟩, Bool.true_and]
  show riseAll (fits 4) em l = _
  unfold dF
  rw [Bool.eq_iff_iff, decide_eq_true_eq, dmax_le (depthV 5) (l.map Fld.v) 4 (by omega)]
  constructor
  · intro h v hv
    obtain ⟨f, hf, rfl⟩ := List.mem_map.mp hv
    have h1 := fits_depth 4 f.v (rise_all _ l em h f hf).2 5 (by omega)
    have h2 := (depthV_bd 4 f.v).2
    rw [h1.2]; exact_mod_cast h2
  · intro h
    exact rise_swap _ _ l em hr (fun f hf => fits_of_depth 5 4 f.v (hall f hf) (by exact_mod_cast h f.v (List.mem_map.mpr ⟨f, hf, rfl⟩)))

end Go.Proofs.YtncpijfbbgipaaaGreatDoor

/- What the laws' own helpers on rows of values answer. -/
namespace Go.Proofs.YtncpijfbbgipaaaGreatDoor
open Go.RowKit
set_option linter.unusedVariables false

/-- A row of values that stands at a block's head. -/
structure ReadV (w : World) (g : Nat) (l : List Val) : Prop where
  lt : g < w.heap.size
  cells : ∀ i (h : i < l.length), w.cell? ⟨g, i * 3, none⟩ = some (.int .i64 l[i].k) ∧ w.cell? ⟨g, i * 3 + 1, none⟩ = some (.int .i64 l[i].n) ∧ w.cell? ⟨g, i * 3 + 2, none⟩ = some (.string l[i].t)
theorem ReadV.step {w w' : World} {g base : Nat} {l : List Val} (h : ReadV w g l) (hb : Below base w w') (hg : g < base) : ReadV w' g l :=
  ⟨Nat.lt_of_lt_of_le h.lt hb.size, fun i hi => ⟨(hb.cell hg).trans (h.cells i hi).1, (hb.cell hg).trans (h.cells i hi).2.1, (hb.cell hg).trans (h.cells i hi).2.2⟩⟩
theorem ReadV.next {w w' : World} {g : Nat} {l : List Val} (h : ReadV w g l) (hb : Below w.heap.size w w') : ReadV w' g l := h.step hb h.lt
theorem ReadV.of_own {w : World} {base g cap : Nat} {l : List Val} (h : w.ownsRow base 39 3 (.slice (some ⟨g, 0, none⟩) l.length cap) l.length (flat l)) : ReadV w g l :=
  ⟨(h.lt g rfl).2, fun i hi => ⟨owns_cell h _ _ (flat_get l i hi).1, owns_cell h _ _ (flat_get l i hi).2.1, owns_cell h _ _ (flat_get l i hi).2.2⟩⟩
/-- Values that came in. -/
def InV (w : World) (a : Option Addr) (l : List Val) : Prop := l.length = 0 ∨ ∃ b off, a = some ⟨b, off, none⟩ ∧ b < w.heap.size ∧ ∀ i (h : i < l.length), w.cell? ⟨b, off + i * 3, none⟩ = some (.int .i64 l[i].k) ∧ w.cell? ⟨b, off + i * 3 + 1, none⟩ = some (.int .i64 l[i].n) ∧ w.cell? ⟨b, off + i * 3 + 2, none⟩ = some (.string l[i].t)
theorem InV.step {w w' : World} {a : Option Addr} {l : List Val} (h : InV w a l) (hb : Below w.heap.size w w') : InV w' a l := by
  rcases h with h | ⟨b, off, ha, hlt, hc⟩
  · exact .inl h
  · exact .inr ⟨b, off, ha, Nat.lt_of_lt_of_le hlt hb.size, fun i hi => ⟨(hb.cell hlt).trans (hc i hi).1, (hb.cell hlt).trans (hc i hi).2.1, (hb.cell hlt).trans (hc i hi).2.2⟩⟩

/-- Block number w.heap.size of W holds three cells that may be written, and all that lay in w lies in W as it did. -/
structure Res3 (w W : World) (a b c : Value) : Prop where
  bel : Below w.heap.size w W
  lt : w.heap.size < W.heap.size
  c0 : W.cell? ⟨w.heap.size, 0, none⟩ = some a
  c1 : W.cell? ⟨w.heap.size, 1, none⟩ = some b
  c2 : W.cell? ⟨w.heap.size, 2, none⟩ = some c
  z0 : W.frozen? ⟨w.heap.size, 0, none⟩ = false
  z1 : W.frozen? ⟨w.heap.size, 1, none⟩ = false
  z2 : W.frozen? ⟨w.heap.size, 2, none⟩ = false
theorem Res3.start (w : World) (a b c : Value) (T : TypeId) : Res3 w (w.alloc (.cells #[a, b, c] T)) a b c :=
  ⟨(Below.refl _ _).alloc (Nat.le_refl _) _, by simp, by simp [go_sem], by simp [go_sem], by simp [go_sem], by simp [go_sem], by simp [go_sem], by simp [go_sem]⟩
theorem Res3.step {w W W' : World} {a b c : Value} (h : Res3 w W a b c) (hb : Below W.heap.size W W') : Res3 w W' a b c :=
  ⟨h.bel.trans (hb.mono h.bel.size), Nat.lt_of_lt_of_le h.lt hb.size, (hb.cell h.lt).trans h.c0, (hb.cell h.lt).trans h.c1, (hb.cell h.lt).trans h.c2, (hb.frozen h.lt).trans h.z0, (hb.frozen h.lt).trans h.z1, (hb.frozen h.lt).trans h.z2⟩
def zv : Val := ⟨0, 0, em⟩
/-- The first k values, and zero ones behind them. -/
def mixV (l : List Val) (k : Nat) : List Val := l.take k ++ List.replicate (l.length - k) zv
theorem mixV_len (l : List Val) (k : Nat) (h : k ≤ l.length) : (mixV l k).length = l.length := by unfold mixV; simp; omega
theorem mixV_full (l : List Val) (k : Nat) (h : l.length ≤ k) : mixV l k = l := by
  unfold mixV; rw [List.take_of_length_le h, Nat.sub_eq_zero_of_le h]; simp
theorem mixV_set (l : List Val) (k : Nat) (h : k < l.length) : (mixV l k).set k l[k] = mixV l (k + 1) := by
  unfold mixV
  have hl : (l.take k).length = k := by simp; omega
  rw [List.take_succ_eq_append_getElem h, List.append_assoc, List.set_append_right _ _ (by omega)]
  congr 1
  rw [hl, Nat.sub_self]
  obtain ⟨m, hm⟩ : ∃ m, l.length - k = m + 1 := ⟨l.length - k - 1, by omega⟩
  rw [hm, List.replicate_succ, show l.length - (k + 1) = m by omega]
  rfl
theorem flat_cons (v : Val) (l : List Val) : flat (v :: l) = .int .i64 v.k :: .int .i64 v.n :: .string v.t :: flat l := rfl
theorem flat_set : ∀ (l : List Val) (k : Nat) (v : Val), k < l.length → (((flat l).set (k * 3) (.int .i64 v.k)).set (k * 3 + 1) (.int .i64 v.n)).set (k * 3 + 2) (.string v.t) = flat (l.set k v)
  | [], k, v, h => by simp at h
  | u :: l, 0, v, _ => rfl
  | u :: l, k + 1, v, h => by
    rw [List.set_cons_succ, flat_cons, flat_cons, ← flat_set l k v (by simpa using h)]
    rw [show (k + 1) * 3 = k * 3 + 1 + 1 + 1 by omega]
    rfl
theorem flat_len (l : List Val) : (flat l).length = l.length * 3 := by
  induction l with
  | nil => rfl
  | cons v l ih => rw [flat_cons]; simp [ih]; omega
theorem made_zero (n : Nat) : (madeCells (Value.agg #[.int .i64 0, .int .i64 0, .string em]).cells (n * 3)).toList = flat (List.replicate n zv) := by
  apply List.ext_getElem?
  intro j
  by_cases hj : j < n * 3
  · have hg := flat_get (List.replicate n zv) (j / 3) (by simp; omega)
    simp only [List.getElem_replicate] at hg
    have hc : (Value.agg #[.int .i64 0, .int .i64 0, .string em]).cells = #[.int .i64 0, .int .i64 0, .string em] := by rfl
    rw [hc]
    have h3 : j % 3 = 0 ∨ j % 3 = 1 ∨ j % 3 = 2 := by omega
    rcases h3 with h3 | h3 | h3
    · have e : j = j / 3 * 3 := by omega
      rw [show (flat (List.replicate n zv))[j]? = (flat (List.replicate n zv))[j / 3 * 3]? by rw [← e], hg.1]
      simp [madeCells, hj, h3, zv]
    · have e : j = j / 3 * 3 + 1 := by omega
      rw [show (flat (List.replicate n zv))[j]? = (flat (List.replicate n zv))[j / 3 * 3 + 1]? by rw [← e], hg.2.1]
      simp [madeCells, hj, h3, zv]
    · have e : j = j / 3 * 3 + 2 := by omega
      rw [show (flat (List.replicate n zv))[j]? = (flat (List.replicate n zv))[j / 3 * 3 + 2]? by rw [← e], hg.2.2]
      simp [madeCells, hj, h3, zv]
  · rw [List.getElem?_eq_none (by simp [madeCells]; omega), List.getElem?_eq_none (by rw [flat_len]; simp; omega)]

theorem take_all (p : Val → Prop) (l : List Val) (k : Nat) (h : k < l.length) (h1 : ∀ v ∈ l.take k, p v) (h2 : p l[k]) : ∀ v ∈ l.take (k + 1), p v := by
  intro v hv
  rw [List.take_succ_eq_append_getElem h] at hv
  rcases List.mem_append.mp hv with hv | hv
  · exact h1 v hv
  · rw [List.mem_singleton.mp hv]; exact h2

end Go.Proofs.YtncpijfbbgipaaaGreatDoor

/- A copy of a text is the same text, in new memory; so is a value with it. -/
namespace Go.Proofs.YtncpijfbbgipaaaGreatDoor
open Go.RowKit
set_option linter.unusedVariables false

set_option maxRecDepth 4000 in
set_option maxHeartbeats 1000000 in
theorem clone_none (w : World) : Calls Tryz.prog 84 #[.string em] w fun e w' => e = .returned (.string em) ∧ Below w.heap.size w w' := by
  go_enter Tryz.func84, Tryz.ntmps84
  go_wp2
  go_ret
  exact ⟨rfl, Below.refl _ _⟩
theorem list_of_bytes (s : ByteArray) : (⟨s.data.toList.toArray⟩ : ByteArray) = s := by cases s; simp
set_option maxRecDepth 4000 in
set_option maxHeartbeats 2000000 in
theorem clone_some (s : ByteArray) (w : World) (h0 : 0 < s.size) (hs : s.size ≤ 1048576) :
    Calls Tryz.prog 84 #[.string s] w fun e w' => e = .returned (.string s) ∧ Below w.heap.size w w' := by
  obtain ⟨i0, hi, hz0, hz1, hz2⟩ := info_parts infoB
  have hone : (Tryz.prog.info? 5).map (·.size) = some 1 := by rw [hi]; simp [hz1]
  have hcell1 : Tryz.prog.cellsOf 5 = 1 := by simp [Program.cellsOf, hi, hz1]
  have hll : s.data.toList.length = s.size := toList_length s
  obtain ⟨M, hM, hMs⟩ : ∃ M : Array Value, (∀ W : World, (Instr.makeSlice 134 (.int .i64 (s.size : Int)) (.int .i64 (s.size : Int))).run Tryz.prog W = .ok (.slice (some ⟨W.heap.size, 0, none⟩) s.size s.size) (W.alloc (.cells M 5))) ∧ M.size = s.size := by
    refine ⟨madeCells (Value.int .u8 0).cells (((s.size : Nat) : Int).toNat * i0.size), fun W => ?_, by rw [size_madeCells, hz1]; simp⟩
    have := run_make (P := Tryz.prog) W 134 5 i0 (.int .u8 0) Tryz.underlying134 hi hz0 .i64 .i64 (s.size : Int) (s.size : Int) (by omega) (by omega) (by rw [hz2]; omega) (by omega)
    simpa using this
  have hcopy := Lib.run_copy_row_string (P := Tryz.prog) (w.alloc (.cells M 5)) 134 9 3 5 w.heap.size 0 s.size s.size s M 5 Tryz.underlying134 hone (heap_alloc_new w _) (Nat.le_refl _) (by omega)
  obtain ⟨Y, hY, hYl⟩ : ∃ Y : Array Value, Y = (M.toList.take 0 ++ Lib.byteCells s.data.toList ++ M.toList.drop (0 + s.size)).toArray ∧ Y.toList = Lib.byteCells s.data.toList :=
    ⟨_, rfl, by rw [List.toList_toArray, List.take_zero, List.nil_append, List.drop_of_length_le (by rw [Array.length_toList]; omega), List.append_nil]⟩
  rw [← hY] at hcopy
  have hYs : Y.size = s.size := by rw [← Array.length_toList, hYl, Lib.byteCells_length, hll]
  have hrow : ((w.alloc (.cells M 5)).setRow w.heap.size Y).heap[w.heap.size]? = some (.cells Y 5 (0, 0)) := setRow_heap _ _ M _ 5 (0, 0) (heap_alloc_new w _)
  have hun := Lib.run_unsafeString_row (P := Tryz.prog) ((w.alloc (.cells M 5)).setRow w.heap.size Y) 156 3 9 5 Tryz.underlying156 hcell1 w.heap.size Y.size (by unfold World.shape?; rw [hrow]) s.data.toList (fun e => by rw [e] at hll; simp at hll; omega) (by omega) (by omega)
    (fun j x hx => Lib.cells_of_row hrow Y.size j _ (by rw [List.take_of_length_le (by rw [Array.length_toList]; exact Nat.le_refl _), hYl]; simp [Lib.byteCells, hx]))
  rw [hll, list_of_bytes] at hun
  have b1 : Below w.heap.size w (w.alloc (.cells M 5)) := (Below.refl _ w).alloc (Nat.le_refl _) _
  have b2 : Below w.heap.size (w.alloc (.cells M 5)) ((w.alloc (.cells M 5)).setRow w.heap.size Y) := ⟨rfl, rfl, rfl, by simp, fun k hk => setRow_other _ _ _ _ (by omega)⟩
  have HB : Hid _ := Lib.below_freeze (b1.trans b2) (p := ⟨w.heap.size, 0, none⟩) (Nat.le_refl _) s.size
  clear hY b1 b2
  go_enter Tryz.func84, Tryz.ntmps84
  go_wp2
  go_ret
  exact ⟨rfl, HB.out⟩
theorem clone_any (s : ByteArray) (w : World) (hs : s.size ≤ 1048576) :
    Calls Tryz.prog 84 #[.string s] w fun e w' => e = .returned (.string s) ∧ Below w.heap.size w w' := by
  by_cases h : 0 < s.size
  · exact clone_some s w h hs
  · obtain rfl := empty_of s (by omega)
    exact clone_none w
theorem strClone_any (s : ByteArray) (w : World) (hs : s.size ≤ 1048576) :
    Calls Tryz.prog 54 #[.string s] w fun e w' => e = .returned (.string s) ∧ Below w.heap.size w w' := by
  go_enter Tryz.func54, Tryz.ntmps54
  go_wp2_with (go_at_call 84; refine (clone_any s _ hs).mono ?_; rintro e w1 ⟨rfl, hb⟩)
  go_ret
  exact ⟨rfl, hb⟩
set_option maxRecDepth 4000 in
set_option maxHeartbeats 1000000 in
theorem ownValue_any (k n : Int) (t : ByteArray) (w : World) (hs : t.size ≤ 1048576) :
    Calls Tryz.prog 94 #[.agg #[.int .i64 k, .int .i64 n, .string t]] w fun e w' => e = .returned (.agg #[.int .i64 k, .int .i64 n, .string t]) ∧ Below w.heap.size w w' := by
  have X0 := Res3.start w (.int .i64 k) (.int .i64 n) (.string t) 39
  have Y0 := Res3.start (w.alloc (.cells #[.int .i64 k, .int .i64 n, .string t] 39)) (.int .i64 0) (.int .i64 0) (.string em) 39
  have X1 := X0.step Y0.bel
  go_enter Tryz.func94, Tryz.ntmps94
  go_wp2_with fail
  refine (strClone_any t _ hs).mono ?_
  rintro e w1 ⟨rfl, hb⟩
  have Y := Y0.step hb
  have X := X1.step hb
  have a0 := X.c0
  have a1 := X.c1
  have a2 := X.c2
  have f0 := X.z0
  have f1 := X.z1
  have f2 := X.z2
  have g0 := Y.c0
  have g1 := Y.c1
  have g2 := Y.c2
  have z0 := Y.z0
  have z1 := Y.z1
  have z2 := Y.z2
  have hlt := Y.lt
  have hbw : Below w.heap.size w w1 := ((Below.refl _ _).alloc (Nat.le_refl _) _).trans (Y.bel.mono (by simp))
  simp only [heap_size_alloc] at g0 g1 g2 z0 z1 z2 hlt
  clear hb Y Y0 X X0 X1
  go_wp2_with fail
  refine bodyPost_ret (v := .agg #[.int .i64 k, .int .i64 n, .string t]) (by simp [results, Tryz.results94, go_sem, *]) rfl ⟨rfl, ?_⟩
  (repeat (first | (with_reducible exact Below.refl _ _) | (with_reducible assumption) | (with_reducible apply below_drewN) | (with_reducible apply Below.drew) | ((with_reducible refine Below.setCell ?_ ?_ _); rotate_left; focus (first | (simp; done) | (simp; omega) | omega)) | ((with_reducible refine Below.alloc ?_ ?_ _); rotate_left; focus (first | (simp; done) | (simp; omega) | omega))))

end Go.Proofs.YtncpijfbbgipaaaGreatDoor

/- What the laws' marks on rows of values answer: a row that is marked holds its marks. -/
namespace Go.Proofs.YtncpijfbbgipaaaGreatDoor
open Go.RowKit
set_option linter.unusedVariables false

/-- The digits of a number ahead of a text. -/
def digs (k : Nat) (out : ByteArray) : ByteArray := if h : k = 0 then out else digs (k / 10) (txt [48 + (k : Int) % 10] ++ out)
  termination_by k
  decreasing_by omega
theorem digs_zero (out : ByteArray) : digs 0 out = out := by rw [digs]; simp
theorem digs_pos (k : Nat) (out : ByteArray) (h : 0 < k) : digs k out = digs (k / 10) (txt [48 + (k : Int) % 10] ++ out) := by
  rw [digs, dif_neg (by omega)]
/-- The text of a mark. -/
def mt (k : Nat) : ByteArray := (⟨#[109]⟩ : ByteArray) ++ digs k em
theorem conv1 (W : World) (z : Int) : (convert 134 9 (.slice (some ⟨W.heap.size, 0, none⟩) 1 1)).run Tryz.prog (W.alloc (.cells #[.int .u8 z] 5)) = .ok (.string (txt [z])) (W.alloc (.cells #[.int .u8 z] 5)) :=
  run_convert_bytes_arg _ 134 5 Tryz.underlying134 Tryz.underlying5 W.heap.size 0 1 1 [z] rfl (fun i hi => by
    have : i = 0 := by omega
    subst this
    simp [go_sem]) 9 Tryz.underlying9
set_option maxRecDepth 4000 in
set_option maxHeartbeats 1000000 in
theorem markText_any (k : Nat) (h1 : 1 ≤ k) (h2 : k ≤ 1000000) (w : World) :
    Calls Tryz.prog 66 #[.int .i64 k] w fun e w' => e = .returned (.string (mt k)) ∧ Below w.heap.size w w' := by
  have hp : ¬ ((k : Int) ≤ 0) := by omega
  go_enter Tryz.func66, Tryz.ntmps66
  go_wp2_with fail
  go_loopw [0, 3] (fun i u wr => ∃ (j : Nat) (out : ByteArray), i = .int .i64 j ∧ u = .string out ∧ digs j out = digs k em ∧ out.size + j ≤ k ∧ Below w.heap.size w wr) (fun i _ _ => (intOf i).toNat)
  case atStart => exact ⟨k, em, rfl, rfl, rfl, by simp [ByteArray.size], Below.refl _ _⟩
  case round =>
    obtain ⟨j, out, rfl, rfl, hd, hsz, hbel⟩ := hrel
    have HD : Hid _ := hd
    clear hd
    have hz := hbel.size
    by_cases hj : 0 < j
    · have hj' : (0 : Int) < (j : Int) := by omega
      have ht : (txt [48 + (j : Int) % 10]).size = 1 := txt_size _
      have hc := conv1 wr (48 + (j : Int) % 10)
      have hm : Int.tmod (j : Int) 10 = (j : Int) % 10 := Int.tmod_eq_emod_of_nonneg (by omega)
      have hq : Int.tdiv (j : Int) 10 = (j : Int) / 10 := Int.tdiv_eq_ediv_of_nonneg (by omega)
      go_wp2_with fail
      go_roundw
      case rel => exact ⟨j / 10, txt [48 + (j : Int) % 10] ++ out, by go_num, rfl, by rw [← digs_pos j out hj]; exact HD.out, by rw [ByteArray.size_append, ht]; omega, by (repeat (first | (with_reducible exact Below.refl _ _) | (with_reducible assumption) | (with_reducible apply below_drewN) | (with_reducible apply Below.drew) | ((with_reducible refine Below.setCell ?_ ?_ _); rotate_left; focus (first | (simp; done) | (simp; omega) | omega)) | ((with_reducible refine Below.alloc ?_ ?_ _); rotate_left; focus (first | (simp; done) | (simp; omega) | omega))))⟩
      case measure => simp [intOf]; omega
    · have hj0 : j = 0 := by omega
      subst hj0
      have e : out = digs k em := by rw [← HD.out, digs_zero]
      subst e
      clear HD
      go_wp2_with fail
      go_ret
      exact ⟨rfl, hbel⟩

/-- The value that marks place number i. -/
def markV (i : Nat) : Val := ⟨1 + 3 * (i : Int), 1 + 3 * (i : Int) + 1, mt (1 + 3 * (i : Int) + 1 + 1).toNat⟩
theorem markText_int (z : Int) (h1 : 1 ≤ z) (h2 : z ≤ 1000000) (w : World) :
    Calls Tryz.prog 66 #[.int .i64 z] w fun e w' => e = .returned (.string (mt z.toNat)) ∧ Below w.heap.size w w' := by
  have := markText_any z.toNat (by omega) (by omega) w
  rw [show ((z.toNat : Nat) : Int) = z by omega] at this
  exact this
def marks (n : Nat) : List Val := (List.range n).map markV
theorem marks_len (n : Nat) : (marks n).length = n := by unfold marks; simp
theorem marks_get (n i : Nat) (h : i < (marks n).length) : (marks n)[i] = markV i := by simp [marks]
/-- The first k places marked. -/
def markMix (l : List Val) (k : Nat) : List Val := marks k ++ l.drop k
theorem markMix_len (l : List Val) (k : Nat) (h : k ≤ l.length) : (markMix l k).length = l.length := by unfold markMix; rw [List.length_append, marks_len, List.length_drop]; omega
theorem markMix_zero (l : List Val) : markMix l 0 = l := by unfold markMix marks; simp
theorem markMix_full (l : List Val) : markMix l l.length = marks l.length := by unfold markMix; simp
theorem markMix_set (l : List Val) (k : Nat) (h : k < l.length) : (markMix l k).set k (markV k) = markMix l (k + 1) := by
  unfold markMix
  rw [List.set_append_right _ _ (by rw [marks_len]; omega), marks_len, Nat.sub_self]
  have e : marks (k + 1) = marks k ++ [markV k] := by unfold marks; rw [List.range_succ, List.map_append]; rfl
  rw [e, List.append_assoc]
  congr 1
  rw [List.drop_eq_getElem_cons h]; rfl

end Go.Proofs.YtncpijfbbgipaaaGreatDoor

/- What the laws' own helpers on rows of fields answer. -/
namespace Go.Proofs.YtncpijfbbgipaaaGreatDoor
open Go.RowKit
set_option linter.unusedVariables false

/-- A row of fields that stands at a block's head. -/
structure ReadF (w : World) (g : Nat) (l : List Fld) : Prop where
  lt : g < w.heap.size
  cells : ∀ i (h : i < l.length), w.cell? ⟨g, i * 4, none⟩ = some (.string l[i].name) ∧ w.cell? ⟨g, i * 4 + 1, none⟩ = some (.int .i64 l[i].v.k) ∧ w.cell? ⟨g, i * 4 + 2, none⟩ = some (.int .i64 l[i].v.n) ∧ w.cell? ⟨g, i * 4 + 3, none⟩ = some (.string l[i].v.t)
theorem ReadF.step {w w' : World} {g base : Nat} {l : List Fld} (h : ReadF w g l) (hb : Below base w w') (hg : g < base) : ReadF w' g l :=
  ⟨Nat.lt_of_lt_of_le h.lt hb.size, fun i hi => ⟨(hb.cell hg).trans (h.cells i hi).1, (hb.cell hg).trans (h.cells i hi).2.1, (hb.cell hg).trans (h.cells i hi).2.2.1, (hb.cell hg).trans (h.cells i hi).2.2.2⟩⟩
theorem ReadF.next {w w' : World} {g : Nat} {l : List Fld} (h : ReadF w g l) (hb : Below w.heap.size w w') : ReadF w' g l := h.step hb h.lt
theorem ReadF.of_own {w : World} {base g cap : Nat} {l : List Fld} (h : w.ownsRow base 155 4 (.slice (some ⟨g, 0, none⟩) l.length cap) l.length (flatF l)) : ReadF w g l :=
  ⟨(h.lt g rfl).2, fun i hi => ⟨owns_cell h _ _ (flatF_get l i hi).1, owns_cell h _ _ (flatF_get l i hi).2.1, owns_cell h _ _ (flatF_get l i hi).2.2.1, owns_cell h _ _ (flatF_get l i hi).2.2.2⟩⟩
theorem flatF_cons (f : Fld) (l : List Fld) : flatF (f :: l) = .string f.name :: .int .i64 f.v.k :: .int .i64 f.v.n :: .string f.v.t :: flatF l := rfl
theorem flatF_set : ∀ (l : List Fld) (k : Nat) (f : Fld), k < l.length → ((((flatF l).set (k * 4) (.string f.name)).set (k * 4 + 1) (.int .i64 f.v.k)).set (k * 4 + 2) (.int .i64 f.v.n)).set (k * 4 + 3) (.string f.v.t) = flatF (l.set k f)
  | [], k, f, h => by simp at h
  | u :: l, 0, f, _ => rfl
  | u :: l, k + 1, f, h => by
    rw [List.set_cons_succ, flatF_cons, flatF_cons, ← flatF_set l k f (by simpa using h)]
    rw [show (k + 1) * 4 = k * 4 + 1 + 1 + 1 + 1 by omega]
    rfl

/-- The field that marks place number i. -/
def markF (i : Nat) : Fld := ⟨mt (1 + 4 * (i : Int)).toNat, ⟨1 + 4 * (i : Int) + 1, 1 + 4 * (i : Int) + 1 + 1, mt (1 + 4 * (i : Int) + 1 + 1 + 1).toNat⟩⟩
def marksF (n : Nat) : List Fld := (List.range n).map markF
theorem marksF_len (n : Nat) : (marksF n).length = n := by unfold marksF; simp
theorem marksF_get (n i : Nat) (h : i < (marksF n).length) : (marksF n)[i] = markF i := by simp [marksF]
def markMixF (l : List Fld) (k : Nat) : List Fld := marksF k ++ l.drop k
theorem markMixF_len (l : List Fld) (k : Nat) (h : k ≤ l.length) : (markMixF l k).length = l.length := by unfold markMixF; rw [List.length_append, marksF_len, List.length_drop]; omega
theorem markMixF_zero (l : List Fld) : markMixF l 0 = l := by unfold markMixF marksF; simp
theorem markMixF_full (l : List Fld) : markMixF l l.length = marksF l.length := by unfold markMixF; simp
theorem markMixF_set (l : List Fld) (k : Nat) (h : k < l.length) : (markMixF l k).set k (markF k) = markMixF l (k + 1) := by
  unfold markMixF
  rw [List.set_append_right _ _ (by rw [marksF_len]; omega), marksF_len, Nat.sub_self]
  have e : marksF (k + 1) = marksF k ++ [markF k] := by unfold marksF; rw [List.range_succ, List.map_append]; rfl
  rw [e, List.append_assoc]
  congr 1
  rw [List.drop_eq_getElem_cons h]; rfl
theorem readMarksF {w : World} {base g c : Nat} (n : Nat) (h : w.ownsRow base 155 4 (.slice (some ⟨g, 0, none⟩) n c) n (flatF (marksF n))) : ReadF w g (marksF n) :=
  ReadF.of_own (l := marksF n) (cap := c) (base := base) (by rw [marksF_len]; exact h)

theorem own_there {w : World} {base g c n : Nat} {e : TypeId} {size : Nat} {xs : List Value} (h : w.ownsRow base e size (.slice (some ⟨g, 0, none⟩) n c) n xs) (j : Nat) (hj : j < n * size) : ∃ u, w.cell? ⟨g, j, none⟩ = some u := by
  have := World.ownsRow.cellAt h j hj
  rw [this]
  exact ⟨_, List.getElem?_eq_getElem (by have := h.1; omega)⟩

end Go.Proofs.YtncpijfbbgipaaaGreatDoor

/- What the specification's order of values answers, for every two right values. -/
namespace Go.Proofs.YtncpijfbbgipaaaGreatDoor
open Go.RowKit
set_option linter.unusedVariables false

theorem cutF_inj (x y : ByteArray) (f : Fld) (r : ByteArray) (hx : cutF x = some (f, r)) (hy : cutF y = some (f, r)) : x = y := by
  have h : ∀ z : ByteArray, cutF z = some (f, r) → ∃ q, cutT z 1 = some (f.name, q) ∧ cutV q = some (f.v, r) := by
    intro z hz
    unfold cutF at hz
    cases ht : cutT z 1 with
    | none => rw [ht] at hz; cases hz
    | some p =>
      obtain ⟨m, q⟩ := p
      rw [ht] at hz
      cases hc : cutV q with
      | none => simp [hc] at hz
      | some p2 =>
        obtain ⟨v, r2⟩ := p2
        simp [hc] at hz
        obtain ⟨rfl, rfl⟩ := hz
        exact ⟨q, rfl, hc⟩
  obtain ⟨q1, t1, c1⟩ := h x hx
  obtain ⟨q2, t2, c2⟩ := h y hy
  have e := cutV_inj q1 q2 _ _ c1 c2
  subst e
  exact cutT_inj x y 1 _ _ t1 t2
theorem fields_inj : ∀ (l : List Fld) (x y : ByteArray), fields x = some l → fields y = some l → x = y
  | [], x, y, hx, hy => by
    have h : ∀ z : ByteArray, fields z = some [] → z = em := by
      intro z hz
      by_cases h0 : z.size = 0
      · exact empty_of z h0
      · cases hc : cutF z with
        | none => rw [fields_none h0 hc] at hz; cases hz
        | some p =>
          obtain ⟨v, r⟩ := p
          rw [fields_cons hc] at hz
          cases hr : fields r with
          | none => rw [hr] at hz; cases hz
          | some q => rw [hr] at hz; cases hz
    rw [h x hx, h y hy]
  | v :: l, x, y, hx, hy => by
    have h : ∀ z : ByteArray, fields z = some (v :: l) → ∃ r, cutF z = some (v, r) ∧ fields r = some l := by
      intro z hz
      by_cases h0 : z.size = 0
      · rw [fields_nil h0] at hz; cases hz
      · cases hc : cutF z with
        | none => rw [fields_none h0 hc] at hz; cases hz
        | some p =>
          obtain ⟨v', r⟩ := p
          rw [fields_cons hc] at hz
          cases hr : fields r with
          | none => rw [hr] at hz; cases hz
          | some q => rw [hr] at hz; injection hz with hz; injection hz with e1 e2; subst e1; subst e2; exact ⟨r, rfl, hr⟩
    obtain ⟨r1, c1, i1⟩ := h x hx
    obtain ⟨r2, c2, i2⟩ := h y hy
    have e := fields_inj l r1 r2 i1 i2
    subst e
    exact cutF_inj x y v r1 c1 c2
theorem ordV_k (d : Nat) (a b : Val) (h : a.k ≠ b.k) : ordV d a b = cI a.k b.k := by cases d <;> (unfold ordV; rw [if_pos h])
theorem ordV_n (d : Nat) (a b : Val) (h : a.k = b.k) (h2 : a.n ≠ b.n) : ordV d a b = cI a.n b.n := by cases d <;> (unfold ordV; rw [if_neg (by simp [h]), if_pos h2])
theorem ordV_t (d : Nat) (a b : Val) (h : a.k = b.k) (h2 : a.n = b.n) (h4 : a.k ≠ 4) (h5 : a.k ≠ 5) : ordV d a b = cB a.t b.t := by
  cases d with
  | zero => unfold ordV; rw [if_neg (by simp [h]), if_neg (by simp [h2])]
  | succ d => unfold ordV; rw [if_neg (by simp [h]), if_neg (by simp [h2]), if_neg h4, if_neg h5]
theorem ordV_list (d : Nat) (a b : Val) (la lb : List Val) (h : a.k = b.k) (h2 : a.n = b.n) (h4 : a.k = 4) (ia : items a.t = some la) (ib : items b.t = some lb) : ordV (d + 1) a b = lexG (ordV d) la lb := by
  rw [ordV, if_neg (by simp [h]), if_neg (by simp [h2]), if_pos h4, ia, ib]; rfl
theorem ordV_doc (d : Nat) (a b : Val) (la lb : List Fld) (h : a.k = b.k) (h2 : a.n = b.n) (h5 : a.k = 5) (ia : fields a.t = some la) (ib : fields b.t = some lb) : ordV (d + 1) a b = lexG (cF (ordV d)) la lb := by
  rw [ordV, if_neg (by simp [h]), if_neg (by simp [h2]), if_neg (by omega), if_pos h5, ia, ib]; rfl
theorem val_ext {a b : Val} (h1 : a.k = b.k) (h2 : a.n = b.n) (h3 : a.t = b.t) : a = b := by cases a; cases b; simp_all
/-- Right values that are neither ahead nor behind are alike. -/
theorem ordV_zero : ∀ (d : Nat) (a b : Val), fits d a = true → fits d b = true → ordV d a b = 0 → a = b
  | d, a, b, ha, hb, h => by
    by_cases hk : a.k = b.k
    · by_cases hn : a.n = b.n
      · by_cases h4 : a.k = 4
        · obtain ⟨e, la, rfl, ia, _, _, alla⟩ := fits_items h4 ha
          obtain ⟨e2, lb, he, ib, _, _, allb⟩ := fits_items (hk ▸ h4) hb
          have : e2 = e := by omega
          subst this
          rw [ordV_list e2 a b la lb hk hn h4 ia ib] at h
          have hl := lexG_zero _ la lb (fun x hx y hy hp => ordV_zero e2 x y (alla x hx).1 (allb y hy).1 hp) h
          subst hl
          exact val_ext hk hn (items_inj la _ _ ia ib)
        · by_cases h5 : a.k = 5
          · obtain ⟨e, la, rfl, ia, _, _, _, alla⟩ := fits_fields h5 ha
            obtain ⟨e2, lb, he, ib, _, _, _, allb⟩ := fits_fields (hk ▸ h5) hb
            have : e2 = e := by omega
            subst this
            rw [ordV_doc e2 a b la lb hk hn h5 ia ib] at h
            have hl := lexG_zero _ la lb (fun x hx y hy hp => by
              unfold cF at hp
              split at hp
              · rename_i hm
                have e1 := (cB_zero _ _).mp hm
                have e2 := ordV_zero e2 x.v y.v (alla x hx).1 (allb y hy).1 hp
                cases x; cases y; simp_all
              · rename_i hm; exact absurd hp hm) h
            subst hl
            exact val_ext hk hn (fields_inj la _ _ ia ib)
          · rw [ordV_t d a b hk hn h4 h5] at h
            exact val_ext hk hn ((cB_zero _ _).mp h)
      · rw [ordV_n d a b hk hn] at h; exact absurd ((cI_zero _ _).mp h) hn
    · rw [ordV_k d a b hk] at h; exact absurd ((cI_zero _ _).mp h) hk
  termination_by d => d
  decreasing_by all_goals omega

theorem toList_ne {a b : ByteArray} (h : a ≠ b) : (a.toList == b.toList) = false := by
  rw [ByteArray.toList_eq, ByteArray.toList_eq]
  exact beq_eq_false_iff_ne.mpr (fun e => h (ba_ext e))
end Go.Proofs.YtncpijfbbgipaaaGreatDoor

/- What a term lets in, said plainly. Nothing of the program is used here. -/
namespace Go.Proofs.YtncpijfbbgipaaaGreatDoor
open Go.RowKit
set_option linter.unusedVariables false

instance : DecidableEq Val := fun a b =>
  if h : a.k = b.k ∧ a.n = b.n ∧ a.t = b.t then isTrue (val_ext h.1 h.2.1 h.2.2) else isFalse (fun e => h (by subst e; exact ⟨rfl, rfl, rfl⟩))
/-- Does one value do what a term asks. -/
def oneT (op : Int) (c v : Val) : Bool :=
  if op = 1 ∨ op = 2 then decide (v = c)
  else if op = 3 then decide (v.k = c.k) && decide (ordV 5 v c < 0)
  else if op = 4 then decide (v.k = c.k) && decide (ordV 5 v c ≤ 0)
  else if op = 5 then decide (v.k = c.k) && decide (0 < ordV 5 v c)
  else if op = 6 then decide (v.k = c.k) && decide (0 ≤ ordV 5 v c)
  else if op = 7 then (itms c).any (fun u => decide (u = v))
  else if op = 9 then decide (v.k = c.n)
  else if op = 10 then decide (v.k = 4) && decide (((itms v).length : Int) = c.n)
  else true
def fitsO (op o : Int) : Bool := if op = 3 then decide (o < 0) else if op = 4 then decide (o ≤ 0) else if op = 5 then decide (0 < o) else decide (0 ≤ o)
theorem oneT_ord (op : Int) (c v : Val) (h : op = 3 ∨ op = 4 ∨ op = 5 ∨ op = 6) : oneT op c v = (decide (v.k = c.k) && fitsO op (ordV 5 v c)) := by
  rcases h with rfl | rfl | rfl | rfl <;> simp [oneT, fitsO]
/-- What is held against a term: null where nothing is, but for type. -/
def heldT (op : Int) (l : List Val) : List Val := if l = [] then (if op = 9 then [] else [⟨0, 0, em⟩]) else l
/-- Does a term let in a document in which its path comes to these values. -/
def letsT (op : Int) (c : Val) (l : List Val) : Bool :=
  if op = 8 then (decide (0 < (l.length : Int)) == decide (c.n = 1)) else ((heldT op l).any (oneT op c) != decide (op = 2))
/-- Does a term let in a document. -/
def termL (op : Int) (p : ByteArray) (c doc : Val) : Bool := letsT op c (getP (pieces p) doc)
/-- Is a value a right document. -/
def docB (v : Val) : Bool := decide (v.k = 5) && okB v
theorem getP_ok : ∀ (ws : List ByteArray) (v : Val), okB v = true → ∀ u ∈ getP ws v, okB u = true
  | [], v, h, u, hu => by
    rw [getP_end] at hu
    rcases List.mem_cons.mp hu with rfl | hu
    · exact h
    · split at hu
      · rename_i h4
        obtain ⟨_, _, _, d', hd, hall⟩ := list_parts 5 v h h4
        exact (fits_depth d' u (hall u hu).1 5 (by omega)).1
      · cases hu
  | nm :: ws, v, h, u, hu => by
    have ih := getP_ok ws
    have hdoc : ∀ x : Val, okB x = true → x.k = 5 → ∀ u ∈ docP (getP ws) nm x, okB u = true := by
      intro x hx h5 u hu
      obtain ⟨_, _, _, _, d', hd, hall, _⟩ := doc_parts 5 x hx h5
      cases hfv : fieldV nm (flds x) with
      | none => rw [docP_none _ _ _ hfv] at hu; cases hu
      | some y =>
        rw [docP_some _ _ _ y hfv] at hu
        obtain ⟨f, hf, rfl⟩ := fieldV_mem nm y _ hfv
        exact ih f.v (fits_depth d' f.v (hall f hf).1 5 (by omega)).1 u hu
    by_cases h5 : v.k = 5
    · rw [getP_doc nm ws v h5] at hu
      exact hdoc v h h5 u hu
    · by_cases h4 : v.k = 4
      · rw [getP_list nm ws v h4] at hu
        obtain ⟨it, hit, hu⟩ := List.mem_flatMap.mp hu
        obtain ⟨_, _, _, d', hd, hall⟩ := list_parts 5 v h h4
        have hok : okB it = true := (fits_depth d' it (hall it hit).1 5 (by omega)).1
        split at hu
        · rename_i h5'
          exact hdoc it hok h5' u hu
        · cases hu
      · rw [getP_none nm ws v h5 h4] at hu; cases hu
theorem ok_zero : okB ⟨0, 0, em⟩ = true := by
  unfold okB; rw [fits_base 5 _ (by show (0 : Int) ≠ 4; decide) (by show (0 : Int) ≠ 5; decide)]; rfl
theorem heldT_ok (op : Int) (l : List Val) (h : ∀ u ∈ l, okB u = true) : ∀ u ∈ heldT op l, okB u = true := by
  intro u hu
  unfold heldT at hu
  split at hu
  · split at hu
    · cases hu
    · simp at hu; subst hu; exact ok_zero
  · exact h u hu
theorem ok_size (v : Val) (h : okB v = true) : v.t.size ≤ 300 := by
  rcases Nat.lt_or_ge 300 v.t.size with h' | h'
  · rw [ok_big v h'] at h; cases h
  · exact h'
theorem ok_items (v : Val) (h : okB v = true) (h4 : v.k = 4) : items v.t = some (itms v) ∧ (itms v).length ≤ 300 ∧ ∀ u ∈ itms v, okB u = true := by
  obtain ⟨_, hi, hl, d', hd, hall⟩ := list_parts 5 v h h4
  exact ⟨hi, hl, fun u hu => (fits_depth d' u (hall u hu).1 5 (by omega)).1⟩

end Go.Proofs.YtncpijfbbgipaaaGreatDoor
