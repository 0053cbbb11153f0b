/- A head of a value's bytes is no value's, nor are its bytes with more behind them, said plainly: nothing of the program is used here. -/
import Derived.Test.YtmchpaccdnnilaaCodec
namespace Go.Proofs.Ytmchpaccdnnilaa
open Go.RowKit
set_option linter.unusedVariables false

theorem beT_app (a b : List Int) (k : Nat) (h : k ≤ a.length) : beT (txt (a ++ b)) k = beT (txt a) k := by
  unfold beT; rw [txt_list, txt_list, List.map_append, List.take_append_of_le_length (by simpa using h)]
theorem hd_app (a b : List Int) (h : 0 < a.length) : hd (txt (a ++ b)) = hd (txt a) := by
  unfold hd; rw [txt_list, txt_list]
  cases a with
  | nil => simp at h
  | cons z a => rfl
theorem ext_app (a b : List Int) (i j : Nat) (hj : j ≤ a.length) : (txt (a ++ b)).extract i j = (txt a).extract i j := by
  apply ByteArray.ext; apply Array.ext'
  rw [extract_list, extract_list, txt_list, txt_list, List.map_append]
  by_cases hi : i ≤ a.length
  · rw [List.drop_append_of_le_length (by simpa using hi), List.take_append_of_le_length (by simp; omega)]
  · rw [show j - i = 0 by omega]; simp
theorem cutR_more (c : Nat) (a b : List Int) (u : Val) (r : ByteArray) (h : cutR c (txt a) = some (u, r)) : ∃ y, cutR c (txt (a ++ b)) = some (u, y) ∧ y.size = r.size + b.length := by
  have hsa : (txt a).size = a.length := txt_size a
  have hsb : (txt (a ++ b)).size = a.length + b.length := by rw [txt_size, List.length_append]
  unfold cutR at h ⊢
  by_cases c0 : c = 0
  · rw [if_pos c0] at h ⊢
    injection h with h; injection h with h1 h2; subst h1; subst h2
    exact ⟨_, rfl, by omega⟩
  rw [if_neg c0] at h ⊢
  by_cases c1 : c = 1
  · rw [if_pos c1] at h ⊢
    by_cases hs : (txt a).size < 1
    · rw [if_pos hs] at h; cases h
    rw [if_neg hs] at h
    rw [if_neg (by omega)]
    injection h with h; injection h with h1 h2; subst h1; subst h2
    exact ⟨_, by rw [beT_app a b 1 (by omega)], by rw [ext_size, ext_size]; omega⟩
  rw [if_neg c1] at h ⊢
  by_cases c2 : c = 2
  · rw [if_pos c2] at h ⊢
    by_cases hs : (txt a).size < 8
    · rw [if_pos hs] at h; cases h
    rw [if_neg hs] at h
    by_cases hh : 127 < hd (txt a)
    · rw [if_pos hh] at h; cases h
    rw [if_neg hh] at h
    rw [if_neg (by omega), hd_app a b (by omega), if_neg hh]
    injection h with h; injection h with h1 h2; subst h1; subst h2
    exact ⟨_, by rw [beT_app a b 8 (by omega)], by rw [ext_size, ext_size]; omega⟩
  rw [if_neg c2] at h ⊢
  by_cases c3 : c = 3 ∨ c = 4 ∨ c = 5
  · rw [if_pos c3] at h ⊢
    unfold cutT at h ⊢
    by_cases hs : (txt a).size < 2
    · rw [if_pos hs] at h; cases h
    rw [if_neg hs] at h
    by_cases hn : (txt a).size < 2 + beT (txt a) 2
    · rw [if_pos hn] at h; cases h
    rw [if_neg hn] at h
    rw [if_neg (by omega), beT_app a b 2 (by omega), if_neg (by omega), ext_app a b 2 (2 + beT (txt a) 2) (by omega)]
    simp only [Option.map_some] at h ⊢
    injection h with h; injection h with h1 h2; subst h1; subst h2
    exact ⟨_, rfl, by rw [ext_size, ext_size]; omega⟩
  rw [if_neg c3] at h; cases h
theorem cutV_more (a b : List Int) (hr : ∀ z ∈ a, 0 ≤ z ∧ z < 256) (u : Val) (r : ByteArray) (h : cutV (txt a) = some (u, r)) : ∃ y, cutV (txt (a ++ b)) = some (u, y) ∧ y.size = r.size + b.length := by
  cases a with
  | nil => unfold cutV at h; rw [if_pos (by rw [txt_size]; rfl)] at h; cases h
  | cons z a =>
    have hz := hr z (by simp)
    rw [cutV_txt z a hz.1 hz.2] at h
    rw [List.cons_append, cutV_txt z (a ++ b) hz.1 hz.2]
    exact cutR_more _ a b u r h
theorem cutV_head (v : Val) (h : okB v = true) (m : Nat) (hm : m < (encB v).length) : cutV (txt ((encB v).take m)) = none := by
  cases hc : cutV (txt ((encB v).take m)) with
  | none => rfl
  | some p =>
    obtain ⟨u, r⟩ := p
    obtain ⟨y, hy, hs⟩ := cutV_more _ ((encB v).drop m) (fun z hz => encB_range v z (List.mem_of_mem_take hz)) u r hc
    rw [List.take_append_drop] at hy
    have he := cutV_enc v h []
    rw [List.append_nil, hy] at he
    injection he with he; injection he with _ he
    have h0 : y.size = 0 := by rw [he, txt_size]; rfl
    rw [hs, List.length_drop] at h0
    omega

end Go.Proofs.Ytmchpaccdnnilaa
