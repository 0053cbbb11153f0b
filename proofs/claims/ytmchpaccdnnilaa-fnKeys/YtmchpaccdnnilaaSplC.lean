/- Pure: what strings.Cut leaves behind a text's end, and what stands from a place on. -/
import Derived.Test.YtmchpaccdnnilaaSplM
import Derived.Lib.CutLaws
namespace Go.Proofs.Ytmchpaccdnnilaa.Tr
open Go.RowKit
set_option linter.unusedVariables false

theorem from_from (s : ByteArray) (i j : Nat) (h : i ≤ s.size) : from_ (from_ s i) j = from_ s (i + j) := by
  unfold from_
  rw [ByteArray.extract_extract]
  congr 1
  simp; omega
theorem from_zero (s : ByteArray) : from_ s 0 = s := by unfold from_; simp
theorem from_head (s : ByteArray) (i : Nat) (h : i < s.size) (h' : 0 < (from_ s i).size) : (from_ s i)[0] = s[i] := by
  have key : ∀ (h2 : 0 < (s.extract i s.size).size), (s.extract i s.size)[0] = s[i] := by
    intro h2
    rw [ByteArray.getElem_extract]; simp
  exact key h'

abbrev zz : ByteArray := ⟨#[0, 0]⟩
theorem occ_zz (s : ByteArray) (i : Nat) : Lib.occAt s.data.toList zz.data.toList i = true ↔ ∃ h : i + 1 < s.size, s[i] = 0 ∧ s[i + 1] = 0 := by
  obtain ⟨⟨l⟩⟩ := s
  unfold Lib.occAt
  simp only [ByteArray.size, ByteArray.getElem_eq_getElem_data]
  show List.isPrefixOf [0, 0] (l.drop i) = true ↔ ∃ h : i + 1 < l.length, l[i] = 0 ∧ l[i + 1] = 0
  constructor
  · intro h
    rw [List.isPrefixOf_iff_prefix] at h
    obtain ⟨t, ht⟩ := h
    have hl : (l.drop i).length = t.length + 2 := by rw [← ht]; simp
    rw [List.length_drop] at hl
    refine ⟨by omega, ?_, ?_⟩
    · have : (l.drop i)[0]? = some 0 := by rw [← ht]; rfl
      rw [List.getElem?_drop, List.getElem?_eq_getElem (by omega)] at this
      simpa using this
    · have : (l.drop i)[1]? = some 0 := by rw [← ht]; rfl
      rw [List.getElem?_drop, List.getElem?_eq_getElem (by omega)] at this
      simpa using this
  · rintro ⟨h, h0, h1⟩
    rw [List.drop_eq_getElem_cons (by omega), List.drop_eq_getElem_cons (by omega), h0, h1]
    rfl
theorem txtF_found (s : ByteArray) : ∀ (n i : Nat), s.size - i ≤ n → txtF s i ≠ 0 → ∃ k, i ≤ k ∧ txtF s i = k + 2 ∧ Lib.occAt s.data.toList zz.data.toList k = true ∧ ∀ j, i ≤ j → j < k → Lib.occAt s.data.toList zz.data.toList j = false
  | 0, i, hn, h0 => absurd (txtF_end s i (by omega)) h0
  | n + 1, i, hn, h0 => by
    by_cases h : i + 1 < s.size
    · by_cases hz : s[i] = 0 ∧ s[i + 1] = 0
      · exact ⟨i, Nat.le_refl _, txtF_hit s i h hz.1 hz.2, (occ_zz s i).2 ⟨h, hz⟩, fun j h1 h2 => absurd h2 (by omega)⟩
      · rw [txtF_miss s i h hz] at h0 ⊢
        obtain ⟨k, h1, h2, h3, h4⟩ := txtF_found s n (i + 1) (by omega) h0
        refine ⟨k, by omega, h2, h3, fun j hj hk => ?_⟩
        by_cases hji : j = i
        · subst hji
          rw [← Bool.not_eq_true]
          exact fun e => hz ((occ_zz s j).1 e).2
        · exact h4 j (by omega) hk
    · exact absurd (txtF_end s i h) h0
theorem txtF_none (s : ByteArray) : ∀ (n i : Nat), s.size - i ≤ n → txtF s i = 0 → ∀ j, i ≤ j → Lib.occAt s.data.toList zz.data.toList j = false
  | 0, i, hn, h0, j, hj => by
    rw [← Bool.not_eq_true]
    exact fun e => by have := ((occ_zz s j).1 e).1; omega
  | n + 1, i, hn, h0, j, hj => by
    by_cases h : i + 1 < s.size
    · by_cases hz : s[i] = 0 ∧ s[i + 1] = 0
      · rw [txtF_hit s i h hz.1 hz.2] at h0; omega
      · rw [txtF_miss s i h hz] at h0
        by_cases hji : j = i
        · subst hji
          rw [← Bool.not_eq_true]
          exact fun e => hz ((occ_zz s j).1 e).2
        · exact txtF_none s n (i + 1) (by omega) h0 j (by omega)
    · rw [← Bool.not_eq_true]
      exact fun e => by have := ((occ_zz s j).1 e).1; omega
theorem cut_found (s : ByteArray) (h : txt0 s ≠ 0) : (⟨(Lib.cut s.data.toList zz.data.toList).2.1.toArray⟩ : ByteArray) = from_ s (txt0 s) ∧ (Lib.cut s.data.toList zz.data.toList).2.2 = true := by
  obtain ⟨k, _, h2, h3, h4⟩ := txtF_found s s.size 0 (by omega) h
  have hk := ((occ_zz s k).1 h3).1
  have hi : Lib.indexB s zz = k := Lib.index_first (by rw [Array.length_toList]; show k ≤ s.size; omega) h3 (fun j hj => h4 j (Nat.zero_le _) hj)
  obtain ⟨_, e2, e3⟩ := Lib.cutB_hit s zz k hi
  refine ⟨?_, e3⟩
  rw [e2]
  show s.extract (k + 2) s.size = from_ s (txtF s 0)
  rw [h2]; rfl
theorem cut_missed (s : ByteArray) (h : txt0 s = 0) : (⟨(Lib.cut s.data.toList zz.data.toList).2.1.toArray⟩ : ByteArray) = ByteArray.empty ∧ (Lib.cut s.data.toList zz.data.toList).2.2 = false := by
  have hno := txtF_none s s.size 0 (by omega) h
  have hi : Lib.indexB s zz = -1 := Lib.index_none (fun j _ => hno j (Nat.zero_le _))
  obtain ⟨_, e2, e3⟩ := Lib.cutB_miss s zz hi
  exact ⟨e2, e3⟩

end Go.Proofs.Ytmchpaccdnnilaa.Tr
