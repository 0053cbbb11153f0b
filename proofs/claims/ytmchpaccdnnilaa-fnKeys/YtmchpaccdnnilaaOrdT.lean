/- What the specification's order of values answers, for every two right values. -/
import Derived.Test.YtmchpaccdnnilaaOrdS
namespace Go.Proofs.Ytmchpaccdnnilaa
open Go.RowKit
set_option linter.unusedVariables false

theorem plain_t {d : Nat} {v : Val} (hf : fits d v = true) (h3 : v.k ≠ 3) (h4 : v.k ≠ 4) (h5 : v.k ≠ 5) : v.t = em := by
  rw [fits_base d v h4 h5] at hf
  unfold base at hf
  split at hf
  · rw [decide_eq_true_eq] at hf; exact empty_of _ hf.2
  · split at hf
    · rw [decide_eq_true_eq] at hf; exact empty_of _ hf.2.2
    · split at hf
      · rw [decide_eq_true_eq] at hf; exact empty_of _ hf.2.2
      · first | cases hf | (rw [if_neg h3] at hf; cases hf)
end Go.Proofs.Ytmchpaccdnnilaa
