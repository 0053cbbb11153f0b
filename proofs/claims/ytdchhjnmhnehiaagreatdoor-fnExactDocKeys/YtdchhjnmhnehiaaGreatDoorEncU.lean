/- Which kinds right values are of, and how a right value is laid into bytes. -/
import Derived.Test.YtdchhjnmhnehiaaGreatDoorEncI
import Derived.Laws.IdiomStrings
namespace Go.Proofs.YtdchhjnmhnehiaaGreatDoor
open Go.RowKit
set_option linter.unusedVariables false

theorem ok_kinds (v : Val) (h : okB v = true) : v.k = 0 ∨ v.k = 1 ∨ (v.k = 2 ∧ -1000000000000 ≤ v.n ∧ v.n ≤ 1000000000000) ∨ ((v.k = 3 ∨ v.k = 4 ∨ v.k = 5) ∧ v.t.size ≤ 300) := by
  have hs : v.t.size ≤ 300 := by
    rcases Nat.lt_or_ge 300 v.t.size with h' | h'
    · rw [ok_big v h'] at h; cases h
    · exact h'
  by_cases h4 : v.k = 4
  · exact .inr (.inr (.inr ⟨.inr (.inl h4), hs⟩))
  · by_cases h5 : v.k = 5
    · exact .inr (.inr (.inr ⟨.inr (.inr h5), hs⟩))
    · unfold okB at h
      rw [fits_base 5 v h4 h5] at h
      unfold base at h
      by_cases k0 : v.k = 0
      · exact .inl k0
      · rw [if_neg k0] at h
        by_cases k1 : v.k = 1
        · exact .inr (.inl k1)
        · rw [if_neg k1] at h
          by_cases k2 : v.k = 2
          · rw [if_pos k2, decide_eq_true_eq] at h
            exact .inr (.inr (.inl ⟨k2, h.1, h.2.1⟩))
          · rw [if_neg k2] at h
            by_cases k3 : v.k = 3
            · exact .inr (.inr (.inr ⟨.inl k3, hs⟩))
            · rw [if_neg k3] at h; cases h

theorem l01Encode_any (v : Val) (h : okB v = true) (w : World) :
    Calls Tryz.prog 88 #[.agg #[.int .i64 v.k, .int .i64 v.n, .string v.t]] w fun e w' => e = .returned (.string (txt (encB v))) ∧ Below w.heap.size w w' := by
  obtain ⟨k, n, t⟩ := v
  rcases ok_kinds _ h with h | h | h | ⟨h, hs⟩
  · exact l01Encode_plain k n t w (.inl h)
  · exact l01Encode_plain k n t w (.inr (.inl h))
  · exact l01Encode_plain k n t w (.inr (.inr h))
  · exact l01Encode_text k n t w h (by simp at hs; omega)

theorem encB_len (v : Val) (h : okB v = true) : 1 ≤ (encB v).length ∧ (encB v).length ≤ 400 := by
  obtain ⟨k, n, t⟩ := v
  rcases ok_kinds _ h with h | h | ⟨h, _⟩ | ⟨h, hs⟩
  · simp at h; subst h; unfold encB; simp [numB_len]
  · simp at h; subst h; unfold encB; simp [numB_len]
  · simp at h; subst h; unfold encB; simp [numB_len]
  · simp at h hs
    rcases h with rfl | rfl | rfl <;> (unfold encB; simp [numB_len, bytesI_len]; omega)

theorem nb_range (n : Int) (j : Nat) : 0 ≤ nb n j ∧ nb n j < 256 := by unfold nb; omega
theorem numB_range (n : Int) (wd : Nat) : ∀ z ∈ numB n wd, 0 ≤ z ∧ z < 256 := by
  intro z hz
  unfold numB numK at hz
  obtain ⟨j, _, rfl⟩ := List.mem_map.mp hz
  exact nb_range _ _
theorem bytesI_range (t : ByteArray) : ∀ z ∈ bytesI t, 0 ≤ z ∧ z < 256 := by
  intro z hz
  unfold bytesI at hz
  obtain ⟨c, _, rfl⟩ := List.mem_map.mp hz
  have := c.toNat_lt
  omega
theorem encB_range (v : Val) : ∀ z ∈ encB v, 0 ≤ z ∧ z < 256 := by
  intro z hz
  unfold encB at hz
  rcases List.mem_append.mp hz with h | h
  · exact numB_range _ _ z h
  · split at h
    · cases h
    · split at h
      · exact numB_range _ _ z h
      · split at h
        · exact numB_range _ _ z h
        · rcases List.mem_append.mp h with h | h
          · exact numB_range _ _ z h
          · exact bytesI_range _ z h
theorem bytesRow_get (zs : List Int) (hr : ∀ z ∈ zs, 0 ≤ z ∧ z < 256) (cap i : Nat) (hi : i < zs.length) : (bytesRow (txt zs) cap)[i]? = some (.int .u8 (zs.getD i 0)) := by
  have e1 : (txt zs).data.size = zs.length := by simp [txt, strOfNums]
  unfold bytesRow
  rw [Array.getElem?_append_left (by simp [e1]; exact hi), Array.getElem?_map]
  have e2 : (txt zs).data[i]? = some (UInt8.ofNat (zs[i]).toNat) := by simp [txt, strOfNums, hi]
  rw [e2, List.getD_eq_getElem?_getD, List.getElem?_eq_getElem hi]
  have := hr zs[i] (List.getElem_mem _)
  simp only [Option.map_some, Option.getD_some]
  congr 2
  rw [UInt8.toNat_ofNat_of_lt' (by show (zs[i]).toNat < 256; omega)]
  omega

end Go.Proofs.YtdchhjnmhnehiaaGreatDoor
