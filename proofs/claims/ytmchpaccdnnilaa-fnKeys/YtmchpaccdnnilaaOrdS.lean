/- What the specification's order of values answers, for every two right values. -/
import Derived.Test.YtmchpaccdnnilaaOrdM
import Derived.Test.YtmchpaccdnnilaaRowF
import Derived.Test.YtmchpaccdnnilaaEncI
namespace Go.Proofs.Ytmchpaccdnnilaa
open Go.RowKit
set_option linter.unusedVariables false

theorem cutF_inj (x y : ByteArray) (f : Fld) (r : ByteArray) (hx : cutF x = some (f, r)) (hy : cutF y = some (f, r)) : x = y := by
  have h : ∀ z : ByteArray, cutF z = some (f, r) → ∃ q, cutT z 1 = some (f.name, q) ∧ cutV q = some (f.v, r) := by
    intro z hz
    unfold cutF at hz
    cases ht : cutT z 1 with
    | none => rw [ht] at hz; cases hz
    | some p =>
      obtain ⟨m, q⟩ := p
      rw [ht] at hz
      cases hc : cutV q with
      | none => simp [hc] at hz
      | some p2 =>
        obtain ⟨v, r2⟩ := p2
        simp [hc] at hz
        obtain ⟨rfl, rfl⟩ := hz
        exact ⟨q, rfl, hc⟩
  obtain ⟨q1, t1, c1⟩ := h x hx
  obtain ⟨q2, t2, c2⟩ := h y hy
  have e := cutV_inj q1 q2 _ _ c1 c2
  subst e
  exact cutT_inj x y 1 _ _ t1 t2
theorem fields_inj : ∀ (l : List Fld) (x y : ByteArray), fields x = some l → fields y = some l → x = y
  | [], x, y, hx, hy => by
    have h : ∀ z : ByteArray, fields z = some [] → z = em := by
      intro z hz
      by_cases h0 : z.size = 0
      · exact empty_of z h0
      · cases hc : cutF z with
        | none => rw [fields_none h0 hc] at hz; cases hz
        | some p =>
          obtain ⟨v, r⟩ := p
          rw [fields_cons hc] at hz
          cases hr : fields r with
          | none => rw [hr] at hz; cases hz
          | some q => rw [hr] at hz; cases hz
    rw [h x hx, h y hy]
  | v :: l, x, y, hx, hy => by
    have h : ∀ z : ByteArray, fields z = some (v :: l) → ∃ r, cutF z = some (v, r) ∧ fields r = some l := by
      intro z hz
      by_cases h0 : z.size = 0
      · rw [fields_nil h0] at hz; cases hz
      · cases hc : cutF z with
        | none => rw [fields_none h0 hc] at hz; cases hz
        | some p =>
          obtain ⟨v', r⟩ := p
          rw [fields_cons hc] at hz
          cases hr : fields r with
          | none => rw [hr] at hz; cases hz
          | some q => rw [hr] at hz; injection hz with hz; injection hz with e1 e2; subst e1; subst e2; exact ⟨r, rfl, hr⟩
    obtain ⟨r1, c1, i1⟩ := h x hx
    obtain ⟨r2, c2, i2⟩ := h y hy
    have e := fields_inj l r1 r2 i1 i2
    subst e
    exact cutF_inj x y v r1 c1 c2
theorem ordV_k (d : Nat) (a b : Val) (h : a.k ≠ b.k) : ordV d a b = cI a.k b.k := by cases d <;> (unfold ordV; rw [if_pos h])
theorem ordV_n (d : Nat) (a b : Val) (h : a.k = b.k) (h2 : a.n ≠ b.n) : ordV d a b = cI a.n b.n := by cases d <;> (unfold ordV; rw [if_neg (by simp [h]), if_pos h2])
theorem ordV_t (d : Nat) (a b : Val) (h : a.k = b.k) (h2 : a.n = b.n) (h4 : a.k ≠ 4) (h5 : a.k ≠ 5) : ordV d a b = cB a.t b.t := by
  cases d with
  | zero => unfold ordV; rw [if_neg (by simp [h]), if_neg (by simp [h2])]
  | succ d => unfold ordV; rw [if_neg (by simp [h]), if_neg (by simp [h2]), if_neg h4, if_neg h5]
theorem ordV_list (d : Nat) (a b : Val) (la lb : List Val) (h : a.k = b.k) (h2 : a.n = b.n) (h4 : a.k = 4) (ia : items a.t = some la) (ib : items b.t = some lb) : ordV (d + 1) a b = lexG (ordV d) la lb := by
  rw [ordV, if_neg (by simp [h]), if_neg (by simp [h2]), if_pos h4, ia, ib]; rfl
theorem ordV_doc (d : Nat) (a b : Val) (la lb : List Fld) (h : a.k = b.k) (h2 : a.n = b.n) (h5 : a.k = 5) (ia : fields a.t = some la) (ib : fields b.t = some lb) : ordV (d + 1) a b = lexG (cF (ordV d)) la lb := by
  rw [ordV, if_neg (by simp [h]), if_neg (by simp [h2]), if_neg (by omega), if_pos h5, ia, ib]; rfl
theorem val_ext {a b : Val} (h1 : a.k = b.k) (h2 : a.n = b.n) (h3 : a.t = b.t) : a = b := by cases a; cases b; simp_all
/-- Right values that are neither ahead nor behind are alike. -/
theorem ordV_zero : ∀ (d : Nat) (a b : Val), fits d a = true → fits d b = true → ordV d a b = 0 → a = b
  | d, a, b, ha, hb, h => by
    by_cases hk : a.k = b.k
    · by_cases hn : a.n = b.n
      · by_cases h4 : a.k = 4
        · obtain ⟨e, la, rfl, ia, _, _, alla⟩ := fits_items h4 ha
          obtain ⟨e2, lb, he, ib, _, _, allb⟩ := fits_items (hk ▸ h4) hb
          have : e2 = e := by omega
          subst this
          rw [ordV_list e2 a b la lb hk hn h4 ia ib] at h
          have hl := lexG_zero _ la lb (fun x hx y hy hp => ordV_zero e2 x y (alla x hx).1 (allb y hy).1 hp) h
          subst hl
          exact val_ext hk hn (items_inj la _ _ ia ib)
        · by_cases h5 : a.k = 5
          · obtain ⟨e, la, rfl, ia, _, _, _, alla⟩ := fits_fields h5 ha
            obtain ⟨e2, lb, he, ib, _, _, _, allb⟩ := fits_fields (hk ▸ h5) hb
            have : e2 = e := by omega
            subst this
            rw [ordV_doc e2 a b la lb hk hn h5 ia ib] at h
            have hl := lexG_zero _ la lb (fun x hx y hy hp => by
              unfold cF at hp
              split at hp
              · rename_i hm
                have e1 := (cB_zero _ _).mp hm
                have e2 := ordV_zero e2 x.v y.v (alla x hx).1 (allb y hy).1 hp
                cases x; cases y; simp_all
              · rename_i hm; exact absurd hp hm) h
            subst hl
            exact val_ext hk hn (fields_inj la _ _ ia ib)
          · rw [ordV_t d a b hk hn h4 h5] at h
            exact val_ext hk hn ((cB_zero _ _).mp h)
      · rw [ordV_n d a b hk hn] at h; exact absurd ((cI_zero _ _).mp h) hn
    · rw [ordV_k d a b hk] at h; exact absurd ((cI_zero _ _).mp h) hk
  termination_by d => d
  decreasing_by all_goals omega

theorem toList_ne {a b : ByteArray} (h : a ≠ b) : (a.toList == b.toList) = false := by
  rw [ByteArray.toList_eq, ByteArray.toList_eq]
  exact beq_eq_false_iff_ne.mpr (fun e => h (ba_ext e))
end Go.Proofs.Ytmchpaccdnnilaa
