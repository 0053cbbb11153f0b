/- Values are read back from their bytes, said plainly: nothing of the program is used here. -/
import Derived.Test.YtdchhjnmhnehiaaGreatDoorEncU
namespace Go.Proofs.YtdchhjnmhnehiaaGreatDoor
open Go.RowKit
set_option linter.unusedVariables false

def by8 (z : Int) : UInt8 := UInt8.ofNat z.toNat
theorem txt_list (zs : List Int) : (txt zs).data.toList = zs.map by8 := strOfNums_data zs
theorem by8_nat (z : Int) (h0 : 0 ≤ z) (h1 : z < 256) : ((by8 z).toNat : Int) = z := by
  unfold by8
  rw [UInt8.toNat_ofNat_of_lt' (by show z.toNat < 256; omega)]
  omega
theorem pow8 (j : Nat) : (2 : Int) ^ (8 * j) = ((256 ^ j : Nat) : Int) := by
  rw [Int.pow_mul]; norm_cast
theorem by8_nb (n j : Nat) : (by8 (nb n j)).toNat = n / 256 ^ j % 256 := by
  have h := nb_range n j
  have e := by8_nat (nb n j) h.1 h.2
  have e2 : nb (n : Int) j = ((n / 256 ^ j % 256 : Nat) : Int) := by
    unfold nb; rw [pow8, Int.natCast_emod, Int.natCast_ediv]; rfl
  rw [e2] at e ⊢
  exact_mod_cast e
theorem be_num (n wd : Nat) : ∀ k, k ≤ wd → n < 256 ^ wd → beL ((numK (n : Int) wd k).map by8) = n / 256 ^ (wd - k)
  | 0, _, h => by rw [numK_zero, Nat.sub_zero, Nat.div_eq_of_lt h]; rfl
  | k + 1, hk, h => by
    rw [numK_succ, List.map_append, List.map_cons, List.map_nil, beL_snoc, be_num n wd k (by omega) h, by8_nb]
    have e : wd - k = (wd - 1 - k) + 1 := by omega
    have e2 : wd - (k + 1) = wd - 1 - k := by omega
    rw [e, e2, Nat.pow_succ, ← Nat.div_div_eq_div_mul]
    have := Nat.div_add_mod (n / 256 ^ (wd - 1 - k)) 256
    omega
theorem be_numB (n wd : Nat) (h : n < 256 ^ wd) : beL ((numB (n : Int) wd).map by8) = n := by
  unfold numB; rw [be_num n wd wd (Nat.le_refl _) h]; simp

theorem txt_cut (a b c : List Int) : (txt (a ++ b ++ c)).extract a.length (a.length + b.length) = txt b := by
  apply ByteArray.ext; apply Array.ext'
  rw [extract_list, txt_list, txt_list]
  simp
theorem txt_tail (a b : List Int) : (txt (a ++ b)).extract a.length (txt (a ++ b)).size = txt b := by
  have := txt_cut a b []
  rw [List.append_nil] at this
  rw [txt_size, List.length_append]; exact this
theorem beT_txt (a b : List Int) (k : Nat) (h : k = a.length) : beT (txt (a ++ b)) k = beL (a.map by8) := by
  unfold beT; rw [txt_list, h]; simp
theorem cutT_txt (wd : Nat) (t : ByteArray) (r : List Int) (h : t.size < 256 ^ wd) : cutT (txt (numB t.size wd ++ bytesI t ++ r)) wd = some (t, txt r) := by
  have hb : beT (txt (numB (t.size : Int) wd ++ bytesI t ++ r)) wd = t.size := by
    rw [List.append_assoc, beT_txt _ _ wd (numB_len _ _).symm, be_numB _ _ h]
  have hsz : (txt (numB (t.size : Int) wd ++ bytesI t ++ r)).size = wd + t.size + r.length := by
    rw [txt_size]; simp [numB_len, bytesI_len]; omega
  unfold cutT
  rw [hb, if_neg (by omega), if_neg (by omega)]
  have e1 := txt_cut (numB (t.size : Int) wd) (bytesI t) r
  rw [numB_len, bytesI_len, txt_bytes] at e1
  have e2 := txt_tail (numB (t.size : Int) wd ++ bytesI t) r
  rw [List.length_append, numB_len, bytesI_len] at e2
  rw [e1, e2]

theorem txt_cons (z : Int) (r : List Int) : (txt (z :: r)).extract 1 (txt (z :: r)).size = txt r := txt_tail [z] r
theorem hd_txt (z : Int) (r : List Int) : hd (txt (z :: r)) = (by8 z).toNat := by unfold hd; rw [txt_list]; rfl
theorem cutV_txt (z : Int) (r : List Int) (h0 : 0 ≤ z) (h1 : z < 256) : cutV (txt (z :: r)) = cutR z.toNat (txt r) := by
  unfold cutV
  have hs : (txt (z :: r)).size = r.length + 1 := by rw [txt_size]; rfl
  rw [if_neg (by omega), txt_cons, hd_txt]
  have := by8_nat z h0 h1
  congr 1; omega
theorem encB_cons (v : Val) (h : okB v = true) : ∃ r, encB v = v.k :: r ∧ 0 ≤ v.k ∧ v.k < 256 ∧ r = (if v.k = 0 then [] else if v.k = 1 then numB v.n 1 else if v.k = 2 then numB (v.n + 4611686018427387904) 8 else numB v.t.size 2 ++ bytesI v.t) := by
  have hk : 0 ≤ v.k ∧ v.k < 256 := by rcases ok_kinds v h with h | h | ⟨h, _⟩ | ⟨h, _⟩ <;> omega
  refine ⟨_, ?_, hk.1, hk.2, rfl⟩
  unfold encB
  rw [numB_one, nb_zero, Int.emod_eq_of_lt hk.1 hk.2]; rfl
theorem ok_parts (v : Val) (h : okB v = true) : (v.k = 0 → v.n = 0 ∧ v.t = em) ∧ (v.k = 1 → 0 ≤ v.n ∧ v.n ≤ 1 ∧ v.t = em) ∧ (v.k = 2 → v.t = em) ∧ (3 ≤ v.k → v.n = 0) := by
  by_cases h4 : v.k = 4
  · obtain ⟨_, _, _, _, hn, _⟩ := (show ∃ e l, 5 = e + 1 ∧ items v.t = some l ∧ v.n = 0 ∧ True from by
      unfold okB at h; rw [fits_list 4 v h4, Bool.and_eq_true, decide_eq_true_eq] at h
      cases hi : items v.t with
      | none => rw [hi] at h; cases h.2
      | some l => exact ⟨4, l, rfl, rfl, h.1.1, trivial⟩)
    exact ⟨by omega, by omega, by omega, fun _ => hn⟩
  · by_cases h5 : v.k = 5
    · unfold okB at h; rw [fits_doc 4 v h5, Bool.and_eq_true, decide_eq_true_eq] at h
      exact ⟨by omega, by omega, by omega, fun _ => h.1.1⟩
    · unfold okB at h
      rw [fits_base 5 v h4 h5] at h
      unfold base at h
      by_cases k0 : v.k = 0
      · rw [if_pos k0, decide_eq_true_eq] at h
        exact ⟨fun _ => ⟨h.1, empty_of _ h.2⟩, by omega, by omega, by omega⟩
      · rw [if_neg k0] at h
        by_cases k1 : v.k = 1
        · rw [if_pos k1, decide_eq_true_eq] at h
          exact ⟨by omega, fun _ => ⟨h.1, h.2.1, empty_of _ h.2.2⟩, by omega, by omega⟩
        · rw [if_neg k1] at h
          by_cases k2 : v.k = 2
          · rw [if_pos k2, decide_eq_true_eq] at h
            exact ⟨by omega, by omega, fun _ => empty_of _ h.2.2, by omega⟩
          · rw [if_neg k2] at h
            by_cases k3 : v.k = 3
            · rw [if_pos k3, decide_eq_true_eq] at h
              exact ⟨by omega, by omega, by omega, fun _ => h.1⟩
            · rw [if_neg k3] at h; cases h
/-- **A value is read back from the head of its bytes, whatever stands behind them.** -/
theorem cutV_enc (v : Val) (h : okB v = true) (r : List Int) : cutV (txt (encB v ++ r)) = some (v, txt r) := by
  obtain ⟨q, e, hk0, hk1, hq⟩ := encB_cons v h
  obtain ⟨p0, p1, p2, p3⟩ := ok_parts v h
  rw [e, List.cons_append, cutV_txt _ _ hk0 hk1]
  have hks := ok_kinds v h
  obtain ⟨k, n, t⟩ := v
  simp only at *
  unfold cutR
  rcases hks with rfl | rfl | ⟨rfl, h1, h2⟩ | ⟨hk, hs⟩
  · obtain ⟨rfl, rfl⟩ := p0 rfl
    rw [hq]; simp
  · obtain ⟨h1, h2, rfl⟩ := p1 rfl
    have hq2 : q = numB n 1 := by rw [hq]; simp
    obtain ⟨m, rfl⟩ : ∃ m : Nat, n = m := ⟨n.toNat, by omega⟩
    have hb : beT (txt (q ++ r)) 1 = m := by rw [hq2, beT_txt _ _ 1 (numB_len _ _).symm, be_numB m 1 (by omega)]
    have hx : (txt (q ++ r)).extract 1 (txt (q ++ r)).size = txt r := by
      have := txt_tail q r; rw [hq2, numB_len] at this; rw [hq2]; exact this
    have hsz : ¬ (txt (q ++ r)).size < 1 := by rw [txt_size, List.length_append, hq2, numB_len]; omega
    rw [if_neg (by decide), if_pos (by decide), if_neg hsz, hb, hx]
  · have ht := p2 rfl
    subst ht
    have hq2 : q = numB (n + 4611686018427387904) 8 := by rw [hq]; simp
    obtain ⟨m, hm⟩ : ∃ m : Nat, n + 4611686018427387904 = m := ⟨(n + 4611686018427387904).toNat, by omega⟩
    rw [hm] at hq2
    have hml : m < 4611687018427387905 := by omega
    have hb : beT (txt (q ++ r)) 8 = m := by rw [hq2, beT_txt _ _ 8 (numB_len _ _).symm, be_numB m 8 (by omega)]
    have hx : (txt (q ++ r)).extract 8 (txt (q ++ r)).size = txt r := by
      have := txt_tail q r; rw [hq2, numB_len] at this; rw [hq2]; exact this
    have hsz : ¬ (txt (q ++ r)).size < 8 := by rw [txt_size, List.length_append, hq2, numB_len]; omega
    have hhd : hd (txt (q ++ r)) ≤ 127 := by
      rw [hq2, show numB (m : Int) 8 = nb m 7 :: [nb m 6, nb m 5, nb m 4, nb m 3, nb m 2, nb m 1, nb m 0] from rfl, List.cons_append, hd_txt, by8_nb]
      omega
    rw [if_neg (by decide), if_neg (by decide), if_pos (by decide), if_neg hsz, if_neg (by omega), hb, hx, ← hm]
    simp
  · have hn := p3 (by rcases hk with rfl | rfl | rfl <;> omega)
    subst hn
    have hq2 : q ++ r = numB (t.size : Int) 2 ++ bytesI t ++ r := by
      rw [hq]; rcases hk with rfl | rfl | rfl <;> simp
    rw [hq2, cutT_txt 2 t r (by omega)]
    rcases hk with rfl | rfl | rfl <;> simp

theorem items_enc : ∀ (l : List Val), (∀ v ∈ l, okB v = true) → items (txt (l.flatMap encB)) = some l
  | [], _ => items_nil (by rw [txt_size]; rfl)
  | v :: l, h => by
    rw [List.flatMap_cons, items_cons (cutV_enc v (h v (by simp)) _), items_enc l (fun u hu => h u (by simp [hu]))]; rfl

end Go.Proofs.YtdchhjnmhnehiaaGreatDoor
