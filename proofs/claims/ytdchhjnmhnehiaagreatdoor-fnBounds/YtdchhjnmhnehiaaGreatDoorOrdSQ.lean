/- What the specification's order of values answers, for every two right values. -/
import Derived.Test.YtdchhjnmhnehiaaGreatDoorOrdM
import Derived.Test.YtdchhjnmhnehiaaGreatDoorOwnQ
import Derived.Test.YtdchhjnmhnehiaaGreatDoorEncI
import Derived.Test.YtdchhjnmhnehiaaGreatDoorIn
import Derived.Lib.Walk
import Derived.StillTailTactics
import Derived.Deep.RegionWith
import Derived.Test.YtdchhjnmhnehiaaGreatDoorFindM
namespace Go.Proofs.YtdchhjnmhnehiaaGreatDoor
open Go.RowKit
set_option linter.unusedVariables false

theorem cutF_inj (x y : ByteArray) (f : Fld) (r : ByteArray) (hx : cutF x = some (f, r)) (hy : cutF y = some (f, r)) : x = y := by
  have h : ∀ z : ByteArray, cutF z = some (f, r) → ∃ q, cutT z 1 = some (f.name, q) ∧ cutV q = some (f.v, r) := by
    intro z hz
    unfold cutF at hz
    cases ht : cutT z 1 with
    | none => rw [ht] at hz; cases hz
    | some p =>
      obtain ⟨m, q⟩ := p
      rw [ht] at hz
      cases hc : cutV q with
      | none => simp [hc] at hz
      | some p2 =>
        obtain ⟨v, r2⟩ := p2
        simp [hc] at hz
        obtain ⟨rfl, rfl⟩ := hz
        exact ⟨q, rfl, hc⟩
  obtain ⟨q1, t1, c1⟩ := h x hx
  obtain ⟨q2, t2, c2⟩ := h y hy
  have e := cutV_inj q1 q2 _ _ c1 c2
  subst e
  exact cutT_inj x y 1 _ _ t1 t2
theorem fields_inj : ∀ (l : List Fld) (x y : ByteArray), fields x = some l → fields y = some l → x = y
  | [], x, y, hx, hy => by
    have h : ∀ z : ByteArray, fields z = some [] → z = em := by
      intro z hz
      by_cases h0 : z.size = 0
      · exact empty_of z h0
      · cases hc : cutF z with
        | none => rw [fields_none h0 hc] at hz; cases hz
        | some p =>
          obtain ⟨v, r⟩ := p
          rw [fields_cons hc] at hz
          cases hr : fields r with
          | none => rw [hr] at hz; cases hz
          | some q => rw [hr] at hz; cases hz
    rw [h x hx, h y hy]
  | v :: l, x, y, hx, hy => by
    have h : ∀ z : ByteArray, fields z = some (v :: l) → ∃ r, cutF z = some (v, r) ∧ fields r = some l := by
      intro z hz
      by_cases h0 : z.size = 0
      · rw [fields_nil h0] at hz; cases hz
      · cases hc : cutF z with
        | none => rw [fields_none h0 hc] at hz; cases hz
        | some p =>
          obtain ⟨v', r⟩ := p
          rw [fields_cons hc] at hz
          cases hr : fields r with
          | none => rw [hr] at hz; cases hz
          | some q => rw [hr] at hz; injection hz with hz; injection hz with e1 e2; subst e1; subst e2; exact ⟨r, rfl, hr⟩
    obtain ⟨r1, c1, i1⟩ := h x hx
    obtain ⟨r2, c2, i2⟩ := h y hy
    have e := fields_inj l r1 r2 i1 i2
    subst e
    exact cutF_inj x y v r1 c1 c2
theorem ordV_k (d : Nat) (a b : Val) (h : a.k ≠ b.k) : ordV d a b = cI a.k b.k := by cases d <;> (unfold ordV; rw [if_pos h])
theorem ordV_n (d : Nat) (a b : Val) (h : a.k = b.k) (h2 : a.n ≠ b.n) : ordV d a b = cI a.n b.n := by cases d <;> (unfold ordV; rw [if_neg (by simp [h]), if_pos h2])
theorem ordV_t (d : Nat) (a b : Val) (h : a.k = b.k) (h2 : a.n = b.n) (h4 : a.k ≠ 4) (h5 : a.k ≠ 5) : ordV d a b = cB a.t b.t := by
  cases d with
  | zero => unfold ordV; rw [if_neg (by simp [h]), if_neg (by simp [h2])]
  | succ d => unfold ordV; rw [if_neg (by simp [h]), if_neg (by simp [h2]), if_neg h4, if_neg h5]
theorem ordV_list (d : Nat) (a b : Val) (la lb : List Val) (h : a.k = b.k) (h2 : a.n = b.n) (h4 : a.k = 4) (ia : items a.t = some la) (ib : items b.t = some lb) : ordV (d + 1) a b = lexG (ordV d) la lb := by
  rw [ordV, if_neg (by simp [h]), if_neg (by simp [h2]), if_pos h4, ia, ib]; rfl
theorem ordV_doc (d : Nat) (a b : Val) (la lb : List Fld) (h : a.k = b.k) (h2 : a.n = b.n) (h5 : a.k = 5) (ia : fields a.t = some la) (ib : fields b.t = some lb) : ordV (d + 1) a b = lexG (cF (ordV d)) la lb := by
  rw [ordV, if_neg (by simp [h]), if_neg (by simp [h2]), if_neg (by omega), if_pos h5, ia, ib]; rfl
theorem val_ext {a b : Val} (h1 : a.k = b.k) (h2 : a.n = b.n) (h3 : a.t = b.t) : a = b := by cases a; cases b; simp_all
/-- Right values that are neither ahead nor behind are alike. -/
theorem ordV_zero : ∀ (d : Nat) (a b : Val), fits d a = true → fits d b = true → ordV d a b = 0 → a = b
  | d, a, b, ha, hb, h => by
    by_cases hk : a.k = b.k
    · by_cases hn : a.n = b.n
      · by_cases h4 : a.k = 4
        · obtain ⟨e, la, rfl, ia, _, _, alla⟩ := fits_items h4 ha
          obtain ⟨e2, lb, he, ib, _, _, allb⟩ := fits_items (hk ▸ h4) hb
          have : e2 = e := by omega
          subst this
          rw [ordV_list e2 a b la lb hk hn h4 ia ib] at h
          have hl := lexG_zero _ la lb (fun x hx y hy hp => ordV_zero e2 x y (alla x hx).1 (allb y hy).1 hp) h
          subst hl
          exact val_ext hk hn (items_inj la _ _ ia ib)
        · by_cases h5 : a.k = 5
          · obtain ⟨e, la, rfl, ia, _, _, _, alla⟩ := fits_fields h5 ha
            obtain ⟨e2, lb, he, ib, _, _, _, allb⟩ := fits_fields (hk ▸ h5) hb
            have : e2 = e := by omega
            subst this
            rw [ordV_doc e2 a b la lb hk hn h5 ia ib] at h
            have hl := lexG_zero _ la lb (fun x hx y hy hp => by
              unfold cF at hp
              split at hp
              · rename_i hm
                have e1 := (cB_zero _ _).mp hm
                have e2 := ordV_zero e2 x.v y.v (alla x hx).1 (allb y hy).1 hp
                cases x; cases y; simp_all
              · rename_i hm; exact absurd hp hm) h
            subst hl
            exact val_ext hk hn (fields_inj la _ _ ia ib)
          · rw [ordV_t d a b hk hn h4 h5] at h
            exact val_ext hk hn ((cB_zero _ _).mp h)
      · rw [ordV_n d a b hk hn] at h; exact absurd ((cI_zero _ _).mp h) hn
    · rw [ordV_k d a b hk] at h; exact absurd ((cI_zero _ _).mp h) hk
  termination_by d => d
  decreasing_by all_goals omega

set_option maxHeartbeats 400000 in
theorem l01Bit_any (b : Bool) (w : World) : Calls Tryz.prog 151 #[.bool b] w fun e w' => e = .returned (.int .i64 (if b then 1 else 0)) ∧ w' = w := by
  cases b
  · go_enter Tryz.func151, Tryz.ntmps151
    go_wp2
    go_ret
    exact ⟨rfl, rfl⟩
  · go_enter Tryz.func151, Tryz.ntmps151
    go_wp2
    go_ret
    exact ⟨rfl, rfl⟩
set_option maxRecDepth 4000 in
set_option maxHeartbeats 1000000 in
theorem l01Order_k (k n k' n' : Int) (t t' : ByteArray) (w : World) (h : k ≠ k') :
    Calls Tryz.prog 135 #[.agg #[.int .i64 k, .int .i64 n, .string t], .agg #[.int .i64 k', .int .i64 n', .string t']] w fun e w' => e = .returned (.int .i64 (cI k k')) ∧ Below w.heap.size w w' := by
  have hb : (k == k') = false := beq_eq_false_iff_ne.mpr h
  rw [cI_ne k k' h]
  by_cases hg : k' < k
  · rw [if_pos hg]
    go_enter Tryz.func135, Tryz.ntmps135
    go_wp2_with (go_at_call 151; refine (l01Bit_any _ _).mono ?_; rintro e w1 ⟨rfl, rfl⟩)
    go_ret
    exact ⟨by simp, by (repeat (first | (with_reducible exact Below.refl _ _) | (with_reducible assumption) | (with_reducible apply below_drewN) | (with_reducible apply Below.drew) | ((with_reducible refine Below.setCell ?_ ?_ _); rotate_left; focus (first | (simp; done) | (simp; omega) | omega)) | ((with_reducible refine Below.alloc ?_ ?_ _); rotate_left; focus (first | (simp; done) | (simp; omega) | omega))))⟩
  · rw [if_neg hg]
    go_enter Tryz.func135, Tryz.ntmps135
    go_wp2_with (go_at_call 151; refine (l01Bit_any _ _).mono ?_; rintro e w1 ⟨rfl, rfl⟩)
    go_ret
    exact ⟨by simp, by (repeat (first | (with_reducible exact Below.refl _ _) | (with_reducible assumption) | (with_reducible apply below_drewN) | (with_reducible apply Below.drew) | ((with_reducible refine Below.setCell ?_ ?_ _); rotate_left; focus (first | (simp; done) | (simp; omega) | omega)) | ((with_reducible refine Below.alloc ?_ ?_ _); rotate_left; focus (first | (simp; done) | (simp; omega) | omega))))⟩

set_option maxRecDepth 4000 in
set_option maxHeartbeats 1000000 in
theorem l01Order_n (k n n' : Int) (t t' : ByteArray) (w : World) (h : n ≠ n') :
    Calls Tryz.prog 135 #[.agg #[.int .i64 k, .int .i64 n, .string t], .agg #[.int .i64 k, .int .i64 n', .string t']] w fun e w' => e = .returned (.int .i64 (cI n n')) ∧ Below w.heap.size w w' := by
  have hb : (n == n') = false := beq_eq_false_iff_ne.mpr h
  rw [cI_ne n n' h]
  by_cases hg : n' < n
  · rw [if_pos hg]
    go_enter Tryz.func135, Tryz.ntmps135
    go_wp2_with (go_at_call 151; refine (l01Bit_any _ _).mono ?_; rintro e w1 ⟨rfl, rfl⟩)
    go_ret
    exact ⟨by simp, by (repeat (first | (with_reducible exact Below.refl _ _) | (with_reducible assumption) | (with_reducible apply below_drewN) | (with_reducible apply Below.drew) | ((with_reducible refine Below.setCell ?_ ?_ _); rotate_left; focus (first | (simp; done) | (simp; omega) | omega)) | ((with_reducible refine Below.alloc ?_ ?_ _); rotate_left; focus (first | (simp; done) | (simp; omega) | omega))))⟩
  · rw [if_neg hg]
    go_enter Tryz.func135, Tryz.ntmps135
    go_wp2_with (go_at_call 151; refine (l01Bit_any _ _).mono ?_; rintro e w1 ⟨rfl, rfl⟩)
    go_ret
    exact ⟨by simp, by (repeat (first | (with_reducible exact Below.refl _ _) | (with_reducible assumption) | (with_reducible apply below_drewN) | (with_reducible apply Below.drew) | ((with_reducible refine Below.setCell ?_ ?_ _); rotate_left; focus (first | (simp; done) | (simp; omega) | omega)) | ((with_reducible refine Below.alloc ?_ ?_ _); rotate_left; focus (first | (simp; done) | (simp; omega) | omega))))⟩
set_option maxRecDepth 4000 in
set_option maxHeartbeats 1000000 in
theorem l01Order_same (k n : Int) (t : ByteArray) (w : World) :
    Calls Tryz.prog 135 #[.agg #[.int .i64 k, .int .i64 n, .string t], .agg #[.int .i64 k, .int .i64 n, .string t]] w fun e w' => e = .returned (.int .i64 0) ∧ Below w.heap.size w w' := by
  go_enter Tryz.func135, Tryz.ntmps135
  go_wp2_with fail
  go_ret
  exact ⟨rfl, by (repeat (first | (with_reducible exact Below.refl _ _) | (with_reducible assumption) | (with_reducible apply below_drewN) | (with_reducible apply Below.drew) | ((with_reducible refine Below.setCell ?_ ?_ _); rotate_left; focus (first | (simp; done) | (simp; omega) | omega)) | ((with_reducible refine Below.alloc ?_ ?_ _); rotate_left; focus (first | (simp; done) | (simp; omega) | omega))))⟩
theorem toList_ne {a b : ByteArray} (h : a ≠ b) : (a.toList == b.toList) = false := by
  rw [ByteArray.toList_eq, ByteArray.toList_eq]
  exact beq_eq_false_iff_ne.mpr (fun e => h (ba_ext e))
set_option maxRecDepth 4000 in
set_option maxHeartbeats 1000000 in
theorem l01Order_text (n : Int) (t t' : ByteArray) (w : World) (h : t ≠ t') :
    Calls Tryz.prog 135 #[.agg #[.int .i64 3, .int .i64 n, .string t], .agg #[.int .i64 3, .int .i64 n, .string t']] w fun e w' => e = .returned (.int .i64 (cB t t')) ∧ Below w.heap.size w w' := by
  have hb := toList_ne h
  rw [cB_ne t t' h]
  cases hg : ltB t' t
  · have hg' : Op.bytesLess t.toList t'.toList = true := by have := leB_not t t'; rw [hb, hg] at this; simpa using this
    clear hg
    go_enter Tryz.func135, Tryz.ntmps135
    go_wp2_with (go_at_call 151; refine (l01Bit_any _ _).mono ?_; rintro e w1 ⟨rfl, rfl⟩)
    go_ret
    exact ⟨by simp, by (repeat (first | (with_reducible exact Below.refl _ _) | (with_reducible assumption) | (with_reducible apply below_drewN) | (with_reducible apply Below.drew) | ((with_reducible refine Below.setCell ?_ ?_ _); rotate_left; focus (first | (simp; done) | (simp; omega) | omega)) | ((with_reducible refine Below.alloc ?_ ?_ _); rotate_left; focus (first | (simp; done) | (simp; omega) | omega))))⟩
  · have hg' : Op.bytesLess t.toList t'.toList = false := by have := leB_not t t'; rw [hb, hg] at this; simpa using this
    clear hg
    go_enter Tryz.func135, Tryz.ntmps135
    go_wp2_with (go_at_call 151; refine (l01Bit_any _ _).mono ?_; rintro e w1 ⟨rfl, rfl⟩)
    go_ret
    exact ⟨by simp, by (repeat (first | (with_reducible exact Below.refl _ _) | (with_reducible assumption) | (with_reducible apply below_drewN) | (with_reducible apply Below.drew) | ((with_reducible refine Below.setCell ?_ ?_ _); rotate_left; focus (first | (simp; done) | (simp; omega) | omega)) | ((with_reducible refine Below.alloc ?_ ?_ _); rotate_left; focus (first | (simp; done) | (simp; omega) | omega))))⟩

def l01OrderAt (d : Nat) : Prop := ∀ (a b : Val) (w : World), a.t.size ≤ 1048576 → b.t.size ≤ 1048576 → fits d a = true → fits d b = true →
    Calls Tryz.prog 135 #[.agg #[.int .i64 a.k, .int .i64 a.n, .string a.t], .agg #[.int .i64 b.k, .int .i64 b.n, .string b.t]] w fun e w' => e = .returned (.int .i64 (ordV d a b)) ∧ Below w.heap.size w w'
set_option maxRecDepth 4000 in
set_option maxHeartbeats 2000000 in
theorem l01Order_list (d : Nat) (ih : l01OrderAt d) (n : Int) (t t' : ByteArray) (la lb : List Val) (w : World) (hs : t.size ≤ 1048576) (hs' : t'.size ≤ 1048576) (hne : t ≠ t') (hi : items t = some la) (hi' : items t' = some lb)
    (hall : ∀ u ∈ la, fits d u = true ∧ u.t.size ≤ t.size) (hall' : ∀ u ∈ lb, fits d u = true ∧ u.t.size ≤ t'.size) :
    Calls Tryz.prog 135 #[.agg #[.int .i64 4, .int .i64 n, .string t], .agg #[.int .i64 4, .int .i64 n, .string t']] w fun e w' => e = .returned (.int .i64 (lexG (ordV d) la lb)) ∧ Below w.heap.size w w' := by
  have hb := toList_ne hne
  have hnz : lexG (ordV d) la lb ≠ 0 := fun h => hne (by
    have := lexG_zero _ la lb (fun x hx y hy hp => ordV_zero d x y (hall x hx).1 (hall' y hy).1 hp) h
    subst this
    exact items_inj la _ _ hi hi')
  obtain ⟨R, hR⟩ : ∃ R, R = lexG (ordV d) la lb := ⟨_, rfl⟩
  rw [← hR] at hnz
  rw [← hR]
  have hlen := (items_len t.size t la (Nat.le_refl _) hi).1
  have hlen' := (items_len t'.size t' lb (Nat.le_refl _) hi').1
  have HR : Hid _ := hR
  have HZ : Hid _ := hnz
  have HI : Hid _ := hi
  have HI' : Hid _ := hi'
  have HA : Hid _ := hall
  have HA' : Hid _ := hall'
  have X0 := Boxed.start w (.int .i64 4) (.int .i64 n) (.string t) 38
  have Y0 := Boxed.start (w.alloc (.cells #[.int .i64 4, .int .i64 n, .string t] 38)) (.int .i64 4) (.int .i64 n) (.string t') 38
  have X1 := X0.step Y0.bel
  clear hR hnz hi hi' hall hall' hne X0
  go_enter Tryz.func135, Tryz.ntmps135
  go_wp2_with fail
  refine (l01Items_any t _ hs).mono ?_
  rintro e w1 ⟨⟨g, m, cap, rfl, hown0⟩, hb1⟩
  obtain ⟨rfl, hown⟩ := hown0 la HI.out
  clear hown0
  rw [HI.out]
  have X2 := X1.step hb1
  have Y2 := Y0.step hb1
  have y0 := Y2.c0
  have y1 := Y2.c1
  have y2 := Y2.c2
  simp only [heap_size_alloc] at y0 y1 y2
  have RA : Hid _ := ReadV.of_own hown
  clear hb1 hown X1 Y0
  go_wp2_with fail
  refine (l01Items_any t' _ hs').mono ?_
  rintro e w2 ⟨⟨g', m', cap', rfl, hown0⟩, hb1⟩
  obtain ⟨rfl, hown⟩ := hown0 lb HI'.out
  clear hown0
  rw [HI'.out]
  have X3 := X2.step hb1
  have RB : Hid _ := ReadV.of_own hown
  have RA2 : Hid _ := RA.out.next hb1
  have hbw := X3.bel
  clear hb1 hown X2 Y2 y0 y1 y2 X3 RA
  go_wp2_with fail
  go_loopw [9] (fun i wr => ∃ k : Nat, k ≤ la.length ∧ k ≤ lb.length ∧ i = .int .i64 k ∧ R = lexG (ordV d) (la.drop k) (lb.drop k) ∧ Below w2.heap.size w2 wr) (fun i _ => la.length - (intOf i).toNat)
  case atStart => exact ⟨0, Nat.zero_le _, Nat.zero_le _, rfl, HR.out, Below.refl _ _⟩
  case round =>
    obtain ⟨k, hk, hk', rfl, hr, hbel⟩ := hrel
    have HT : Hid _ := hr
    clear hr HR
    have hz := hbel.size
    have hbw2 : Below w.heap.size w wr := hbw.trans (hbel.mono hbw.size)
    by_cases hlt : k < la.length
    · by_cases hlt' : k < lb.length
      · have x1 := (RA2.out.next hbel).cells k hlt
        have x2 := (RB.out.next hbel).cells k hlt'
        have l1 := (RA2.out.next hbel).lt
        have l2 := (RB.out.next hbel).lt
        have hk1 : (k : Int) < (la.length : Int) := by omega
        have hk2 : (k : Int) < (lb.length : Int) := by omega
        have q0 : ∀ u : Under wr, u.x.cell? ⟨g, k * 3, none⟩ = some (.int .i64 la[k].k) := fun u => (u.h.cell l1).trans x1.1
        have q1 : ∀ u : Under wr, u.x.cell? ⟨g, k * 3 + 1, none⟩ = some (.int .i64 la[k].n) := fun u => (u.h.cell l1).trans x1.2.1
        have q2 : ∀ u : Under wr, u.x.cell? ⟨g, k * 3 + 2, none⟩ = some (.string la[k].t) := fun u => (u.h.cell l1).trans x1.2.2
        have r0 : ∀ u : Under wr, u.x.cell? ⟨g', k * 3, none⟩ = some (.int .i64 lb[k].k) := fun u => (u.h.cell l2).trans x2.1
        have r1 : ∀ u : Under wr, u.x.cell? ⟨g', k * 3 + 1, none⟩ = some (.int .i64 lb[k].n) := fun u => (u.h.cell l2).trans x2.2.1
        have r2 : ∀ u : Under wr, u.x.cell? ⟨g', k * 3 + 2, none⟩ = some (.string lb[k].t) := fun u => (u.h.cell l2).trans x2.2.2
        have hnu : Nonempty (Under wr) := ⟨⟨wr, Below.refl _ _⟩⟩
        have hq := HA.out la[k] (List.getElem_mem _)
        have hq' := HA'.out lb[k] (List.getElem_mem _)
        have HC0 : ∀ W : World, Calls Tryz.prog 135 #[.agg #[.int .i64 la[k].k, .int .i64 la[k].n, .string la[k].t], .agg #[.int .i64 lb[k].k, .int .i64 lb[k].n, .string lb[k].t]] W fun e w' => e = .returned (.int .i64 (ordV d la[k] lb[k])) ∧ Below W.heap.size W w' := fun W => ih la[k] lb[k] W (by omega) (by omega) hq.1 hq'.1
        have hstep := lexG_step (ordV d) la lb k hlt hlt'
        rw [← HT.out] at hstep
        obtain ⟨O, hO⟩ : ∃ O, O = ordV d la[k] lb[k] := ⟨_, rfl⟩
        rw [← hO] at HC0 hstep
        have HC : Hid _ := HC0
        have HS : Hid _ := hstep
        clear x1 x2 hq hq' HC0 hstep hO HT
        by_cases hO0 : O = 0
        · have e0 : (O == 0) = true := by simp [hO0]
          go_wp2_with fail
          refine wp_region_under (by kernel_rfl) (by kernel_rfl) ?_
          repeat (go_big_quiet_step ((go_at_call 135; exact calls_under _ (HC.out _))))
          refine wpQuiet_nil ?_
          rintro _ ⟨u, rfl⟩
          go_wp2_with fail
          go_roundw
          case rel => exact ⟨k + 1, by omega, by omega, by go_num, by rw [HS.out, if_pos hO0], hbel.trans (u.h.mono hbel.size)⟩
          case measure => simp [intOf]; omega
        · have e0 : (O == 0) = false := beq_eq_false_iff_ne.mpr hO0
          go_wp2_with fail
          refine wp_region_under (by kernel_rfl) (by kernel_rfl) ?_
          repeat (go_big_quiet_step ((go_at_call 135; exact calls_under _ (HC.out _))))
          refine wpQuiet_nil ?_
          rintro _ ⟨u, rfl⟩
          go_wp2_with fail
          go_ret
          exact ⟨by rw [HS.out, if_neg hO0]; rfl, hbw2.trans (u.h.mono hbw2.size)⟩
      · have hkl : ¬ (k : Int) < (lb.length : Int) := by omega
        have hR1 : R = 1 := by rw [HT.out]; exact lexG_end2 _ la lb k hlt (by omega)
        have hgt : (lb.length : Int) < (la.length : Int) := by omega
        go_wp2_with (go_at_call 151; refine (l01Bit_any _ _).mono ?_; rintro e w3 ⟨rfl, rfl⟩)
        go_ret
        exact ⟨by rw [hR1]; simp, hbw2⟩
    · have hR1 := lexG_end1 (ordV d) la lb k (by omega)
      rw [← HT.out] at hR1
      by_cases h2 : k < lb.length
      · rw [if_pos h2] at hR1
        have hgt : ¬ (lb.length : Int) < (la.length : Int) := by omega
        go_wp2_with (go_at_call 151; refine (l01Bit_any _ _).mono ?_; rintro e w3 ⟨rfl, rfl⟩)
        go_ret
        exact ⟨by rw [hR1]; simp, hbw2⟩
      · rw [if_neg h2] at hR1; exact absurd hR1 HZ.out

end Go.Proofs.YtdchhjnmhnehiaaGreatDoor

/- What the program's comparing of numbers, texts and pairs of numbers answers. -/
namespace Go.Proofs.YtdchhjnmhnehiaaGreatDoor
open Go.RowKit
set_option linter.unusedVariables false

set_option maxRecDepth 100000 in
set_option maxHeartbeats 1000000 in
theorem cmpStr0_any (a b : ByteArray) (w : World) : Calls Tryz.prog 166 #[.string a, .string b] w fun e w' => e = .returned (.int .i64 (cB a b)) ∧ w' = w := by
  go_enter Tryz.func166, Tryz.ntmps166
  go_wp2
  rw [run_callFunc_extern Tryz.func169 (by kernel_rfl) (by kernel_rfl) (by kernel_rfl) (e := Extern.BytealgCompare.compare) (by kernel_rfl), Lib.run_compareString]
  simp only [Result.andThen]
  rw [Oper.upon_value]
  go_wp2
  go_ret
  exact ⟨rfl, rfl⟩
set_option maxHeartbeats 1000000 in
theorem cmpStr_any (a b : ByteArray) (w : World) : Calls Tryz.prog 160 #[.string a, .string b] w fun e w' => e = .returned (.int .i64 (cB a b)) ∧ w' = w := by
  go_enter Tryz.func160, Tryz.ntmps160
  go_wp2_with (go_at_call 166; refine (cmpStr0_any a b _).mono ?_; rintro e w1 ⟨rfl, rfl⟩)
  go_ret
  exact ⟨rfl, rfl⟩

/-- Two values of three cells in the first two new blocks. -/
structure Two (w W : World) (a b c a' b' c' : Value) : Prop where
  bel : Below w.heap.size w W
  lt : w.heap.size + 1 < W.heap.size
  c0 : W.cell? ⟨w.heap.size, 0, none⟩ = some a
  c1 : W.cell? ⟨w.heap.size, 1, none⟩ = some b
  c2 : W.cell? ⟨w.heap.size, 2, none⟩ = some c
  d0 : W.cell? ⟨w.heap.size + 1, 0, none⟩ = some a'
  d1 : W.cell? ⟨w.heap.size + 1, 1, none⟩ = some b'
  d2 : W.cell? ⟨w.heap.size + 1, 2, none⟩ = some c'
theorem Two.start (w : World) (a b c a' b' c' : Value) (T : TypeId) : Two w ((w.alloc (.cells #[a, b, c] T)).alloc (.cells #[a', b', c'] T)) a b c a' b' c' :=
  ⟨((Below.refl _ _).alloc (Nat.le_refl _) _).alloc (by simp) _, by simp, by simp [go_sem], by simp [go_sem], by simp [go_sem], by simp [go_sem], by simp [go_sem], by simp [go_sem]⟩
theorem Two.step {w W W' : World} {a b c a' b' c' : Value} (h : Two w W a b c a' b' c') (hb : Below W.heap.size W W') : Two w W' a b c a' b' c' :=
  have hl : w.heap.size < W.heap.size := Nat.lt_of_succ_lt h.lt
  ⟨h.bel.trans (hb.mono h.bel.size), Nat.lt_of_lt_of_le h.lt hb.size, (hb.cell hl).trans h.c0, (hb.cell hl).trans h.c1, (hb.cell hl).trans h.c2, (hb.cell h.lt).trans h.d0, (hb.cell h.lt).trans h.d1, (hb.cell h.lt).trans h.d2⟩

theorem still_tail_at {P : Program} {id : Nat} {Q : Exit → Act → World → Prop} {a : Act} {w : World} {l : List Oper} (n : Nat) (hm : P.follows .mixedOrders = true) (hB : Region.lexTailB .any l.toArray n = true)
    (h : ∀ V : World, V = w.drew → wpStill P l.toArray V (fun a' => wpList P l.toArray Q (l.drop n) a' V) (l.take n) a) : (Code.region id l.toArray true).wp P Q a w :=
  wp_region_still_tail n hm hB (h _ rfl)
theorem Two.drawn {w V : World} {a b c a' b' c' : Value} {T : TypeId} (h : V = ((w.alloc (.cells #[a, b, c] T)).alloc (.cells #[a', b', c'] T)).drew) : Two w V a b c a' b' c' := by
  subst h
  exact (Two.start w a b c a' b' c' T).step (Below.refl _ _).drew
end Go.Proofs.YtdchhjnmhnehiaaGreatDoor

/- What the program's comparing of rows of values and of fields answers. -/
namespace Go.Proofs.YtdchhjnmhnehiaaGreatDoor
open Go.RowKit
set_option linter.unusedVariables false

/-- A row of values, a nil one too. -/
def RowV (w : World) (p : Option Addr) (l : List Val) : Prop := l = [] ∨ ∃ g, p = some ⟨g, 0, none⟩ ∧ ReadV w g l
theorem RowV.next {w w' : World} {p : Option Addr} {l : List Val} (h : RowV w p l) (hb : Below w.heap.size w w') : RowV w' p l := by
  rcases h with h | ⟨g, hp, hr⟩
  · exact .inl h
  · exact .inr ⟨g, hp, hr.next hb⟩
def RowF (w : World) (p : Option Addr) (l : List Fld) : Prop := l = [] ∨ ∃ g, p = some ⟨g, 0, none⟩ ∧ ReadF w g l
theorem RowF.next {w w' : World} {p : Option Addr} {l : List Fld} (h : RowF w p l) (hb : Below w.heap.size w w') : RowF w' p l := by
  rcases h with h | ⟨g, hp, hr⟩
  · exact .inl h
  · exact .inr ⟨g, hp, hr.next hb⟩
theorem itemsIn_row (body : ByteArray) (l : List Val) (w : World) (hs : body.size ≤ 1048576) (hi : items body = some l) :
    Calls Tryz.prog 139 #[.string body] w fun e w' => (∃ p cap, e = .returned (.slice p l.length cap) ∧ RowV w' p l) ∧ Below w.heap.size w w' := by
  by_cases hl : l = []
  · subst hl
    exact (itemsIn_nil body w hs hi).mono fun e w' ⟨he, hb⟩ => ⟨⟨none, 0, he, .inl rfl⟩, hb⟩
  · exact (itemsIn_cons body l w hs hi hl).mono fun e w' ⟨⟨g, cap, he, ho⟩, hb⟩ => ⟨⟨some ⟨g, 0, none⟩, cap, he, .inr ⟨g, rfl, ReadV.of_own ho⟩⟩, hb⟩
theorem fieldsIn_row (body : ByteArray) (l : List Fld) (w : World) (hs : body.size ≤ 1048576) (hi : fields body = some l) :
    Calls Tryz.prog 140 #[.string body] w fun e w' => (∃ p cap, e = .returned (.slice p l.length cap) ∧ RowF w' p l) ∧ Below w.heap.size w w' := by
  by_cases hl : l = []
  · subst hl
    exact (fieldsIn_nil body w hs hi).mono fun e w' ⟨he, hb⟩ => ⟨⟨none, 0, he, .inl rfl⟩, hb⟩
  · exact (fieldsIn_cons body l w hs hi hl).mono fun e w' ⟨⟨g, cap, he, ho⟩, hb⟩ => ⟨⟨some ⟨g, 0, none⟩, cap, he, .inr ⟨g, rfl, ReadF.of_own ho⟩⟩, hb⟩

end Go.Proofs.YtdchhjnmhnehiaaGreatDoor

/- What the specification's order of values answers, for every two right values. -/
namespace Go.Proofs.YtdchhjnmhnehiaaGreatDoor
open Go.RowKit
set_option linter.unusedVariables false

set_option maxRecDepth 4000 in
set_option maxHeartbeats 4000000 in
theorem l01Order_doc (d : Nat) (ih : l01OrderAt d) (n : Int) (t t' : ByteArray) (la lb : List Fld) (w : World) (hs : t.size ≤ 1048576) (hs' : t'.size ≤ 1048576) (hne : t ≠ t') (hi : fields t = some la) (hi' : fields t' = some lb)
    (hall : ∀ f ∈ la, fits d f.v = true ∧ f.v.t.size ≤ t.size ∧ f.name.size ≤ t.size) (hall' : ∀ f ∈ lb, fits d f.v = true ∧ f.v.t.size ≤ t'.size ∧ f.name.size ≤ t'.size) :
    Calls Tryz.prog 135 #[.agg #[.int .i64 5, .int .i64 n, .string t], .agg #[.int .i64 5, .int .i64 n, .string t']] w fun e w' => e = .returned (.int .i64 (lexG (cF (ordV d)) la lb)) ∧ Below w.heap.size w w' := by
  have hb := toList_ne hne
  have hnz : lexG (cF (ordV d)) la lb ≠ 0 := fun h => hne (by
    have := lexG_zero _ la lb (fun x hx y hy hp => by
      unfold cF at hp
      split at hp
      · rename_i hm
        have e1 := (cB_zero _ _).mp hm
        have e2 := ordV_zero d x.v y.v (hall x hx).1 (hall' y hy).1 hp
        cases x; cases y; simp_all
      · rename_i hm; exact absurd hp hm) h
    subst this
    exact fields_inj la _ _ hi hi')
  obtain ⟨R, hR⟩ : ∃ R, R = lexG (cF (ordV d)) la lb := ⟨_, rfl⟩
  rw [← hR] at hnz
  rw [← hR]
  have hlen := (fields_len t.size t la (Nat.le_refl _) hi).1
  have hlen' := (fields_len t'.size t' lb (Nat.le_refl _) hi').1
  have HR : Hid _ := hR
  have HZ : Hid _ := hnz
  have HI : Hid _ := hi
  have HI' : Hid _ := hi'
  have HA : Hid _ := hall
  have HA' : Hid _ := hall'
  have X0 := Boxed.start w (.int .i64 5) (.int .i64 n) (.string t) 38
  have Y0 := Boxed.start (w.alloc (.cells #[.int .i64 5, .int .i64 n, .string t] 38)) (.int .i64 5) (.int .i64 n) (.string t') 38
  have X1 := X0.step Y0.bel
  clear hR hnz hi hi' hall hall' hne X0
  go_enter Tryz.func135, Tryz.ntmps135
  go_wp2_with fail
  refine (l01Fields_any t _ hs).mono ?_
  rintro e w1 ⟨⟨g, m, cap, rfl, hown0⟩, hb1⟩
  obtain ⟨rfl, hown⟩ := hown0 la HI.out
  clear hown0
  rw [HI.out]
  have X2 := X1.step hb1
  have Y2 := Y0.step hb1
  have y0 := Y2.c0
  have y1 := Y2.c1
  have y2 := Y2.c2
  simp only [heap_size_alloc] at y0 y1 y2
  have RA : Hid _ := ReadF.of_own hown
  clear hb1 hown X1 Y0
  go_wp2_with fail
  refine (l01Fields_any t' _ hs').mono ?_
  rintro e w2 ⟨⟨g', m', cap', rfl, hown0⟩, hb1⟩
  obtain ⟨rfl, hown⟩ := hown0 lb HI'.out
  clear hown0
  rw [HI'.out]
  have X3 := X2.step hb1
  have RB : Hid _ := ReadF.of_own hown
  have RA2 : Hid _ := RA.out.next hb1
  have hbw := X3.bel
  clear hb1 hown X2 Y2 y0 y1 y2 X3 RA
  go_wp2_with fail
  go_loopw [15] (fun i wr => ∃ k : Nat, k ≤ la.length ∧ k ≤ lb.length ∧ i = .int .i64 k ∧ R = lexG (cF (ordV d)) (la.drop k) (lb.drop k) ∧ Below w2.heap.size w2 wr) (fun i _ => la.length - (intOf i).toNat)
  case atStart => exact ⟨0, Nat.zero_le _, Nat.zero_le _, rfl, HR.out, Below.refl _ _⟩
  case round =>
    obtain ⟨k, hk, hk', rfl, hr, hbel⟩ := hrel
    have HT : Hid _ := hr
    clear hr HR
    have hz := hbel.size
    have hbw2 : Below w.heap.size w wr := hbw.trans (hbel.mono hbw.size)
    by_cases hlt : k < la.length
    · by_cases hlt' : k < lb.length
      · have x1 := (RA2.out.next hbel).cells k hlt
        have x2 := (RB.out.next hbel).cells k hlt'
        have l1 := (RA2.out.next hbel).lt
        have l2 := (RB.out.next hbel).lt
        have hk1 : (k : Int) < (la.length : Int) := by omega
        have hk2 : (k : Int) < (lb.length : Int) := by omega
        have q0 : ∀ u : Under wr, u.x.cell? ⟨g, k * 4, none⟩ = some (.string la[k].name) := fun u => (u.h.cell l1).trans (x1.1)
        have q1 : ∀ u : Under wr, u.x.cell? ⟨g, k * 4 + 1, none⟩ = some (.int .i64 la[k].v.k) := fun u => (u.h.cell l1).trans (x1.2.1)
        have q2 : ∀ u : Under wr, u.x.cell? ⟨g, k * 4 + 2, none⟩ = some (.int .i64 la[k].v.n) := fun u => (u.h.cell l1).trans (x1.2.2.1)
        have q3 : ∀ u : Under wr, u.x.cell? ⟨g, k * 4 + 3, none⟩ = some (.string la[k].v.t) := fun u => (u.h.cell l1).trans (x1.2.2.2)
        have r0 : ∀ u : Under wr, u.x.cell? ⟨g', k * 4, none⟩ = some (.string lb[k].name) := fun u => (u.h.cell l2).trans (x2.1)
        have r1 : ∀ u : Under wr, u.x.cell? ⟨g', k * 4 + 1, none⟩ = some (.int .i64 lb[k].v.k) := fun u => (u.h.cell l2).trans (x2.2.1)
        have r2 : ∀ u : Under wr, u.x.cell? ⟨g', k * 4 + 2, none⟩ = some (.int .i64 lb[k].v.n) := fun u => (u.h.cell l2).trans (x2.2.2.1)
        have r3 : ∀ u : Under wr, u.x.cell? ⟨g', k * 4 + 3, none⟩ = some (.string lb[k].v.t) := fun u => (u.h.cell l2).trans (x2.2.2.2)
        have hnu : Nonempty (Under wr) := ⟨⟨wr, Below.refl _ _⟩⟩
        have hstep := lexG_step (cF (ordV d)) la lb k hlt hlt'
        rw [← HT.out] at hstep
        have HS : Hid _ := hstep
        clear x1 x2 hstep HT
        by_cases hnm : la[k].name = lb[k].name
        · have hq := HA.out la[k] (List.getElem_mem _)
          have hq' := HA'.out lb[k] (List.getElem_mem _)
          have HC0 : ∀ W : World, Calls Tryz.prog 135 #[.agg #[.int .i64 la[k].v.k, .int .i64 la[k].v.n, .string la[k].v.t], .agg #[.int .i64 lb[k].v.k, .int .i64 lb[k].v.n, .string lb[k].v.t]] W fun e w' => e = .returned (.int .i64 (ordV d la[k].v lb[k].v)) ∧ Below W.heap.size W w' := fun W => ih la[k].v lb[k].v W (by omega) (by omega) hq.1 hq'.1
          have hcf : cF (ordV d) la[k] lb[k] = ordV d la[k].v lb[k].v := by unfold cF; rw [if_pos ((cB_zero _ _).mpr hnm)]
          have hst2 := HS.out
          rw [hcf] at hst2
          obtain ⟨O, hO⟩ : ∃ O, O = ordV d la[k].v lb[k].v := ⟨_, rfl⟩
          rw [← hO] at HC0 hst2
          have HC : Hid _ := HC0
          have HS2 : Hid _ := hst2
          have hnb : (la[k].name.toList == lb[k].name.toList) = true := by rw [hnm]; simp
          clear hq hq' HC0 hst2 hO hcf HS
          have hnm2 := hnm
          clear hnm
          by_cases hO0 : O = 0
          · have e0 : (O == 0) = true := by simp [hO0]
            go_wp2_with fail
            refine wp_region_under (by kernel_rfl) (by kernel_rfl) ?_
            repeat (go_big_quiet_step (fail))
            refine wpQuiet_nil ?_
            rintro _ ⟨u, rfl⟩
            have l1' : g < u.x.heap.size := Nat.lt_of_lt_of_le l1 u.h.size
            have l2' : g' < u.x.heap.size := Nat.lt_of_lt_of_le l2 u.h.size
            have p0 : ∀ u2 : Under u.x, u2.x.cell? ⟨g, k * 4, none⟩ = some (.string la[k].name) := fun u2 => (u2.h.cell l1').trans (q0 u)
            have p1 : ∀ u2 : Under u.x, u2.x.cell? ⟨g, k * 4 + 1, none⟩ = some (.int .i64 la[k].v.k) := fun u2 => (u2.h.cell l1').trans (q1 u)
            have p2 : ∀ u2 : Under u.x, u2.x.cell? ⟨g, k * 4 + 2, none⟩ = some (.int .i64 la[k].v.n) := fun u2 => (u2.h.cell l1').trans (q2 u)
            have p3 : ∀ u2 : Under u.x, u2.x.cell? ⟨g, k * 4 + 3, none⟩ = some (.string la[k].v.t) := fun u2 => (u2.h.cell l1').trans (q3 u)
            have s0 : ∀ u2 : Under u.x, u2.x.cell? ⟨g', k * 4, none⟩ = some (.string lb[k].name) := fun u2 => (u2.h.cell l2').trans (r0 u)
            have s1 : ∀ u2 : Under u.x, u2.x.cell? ⟨g', k * 4 + 1, none⟩ = some (.int .i64 lb[k].v.k) := fun u2 => (u2.h.cell l2').trans (r1 u)
            have s2 : ∀ u2 : Under u.x, u2.x.cell? ⟨g', k * 4 + 2, none⟩ = some (.int .i64 lb[k].v.n) := fun u2 => (u2.h.cell l2').trans (r2 u)
            have s3 : ∀ u2 : Under u.x, u2.x.cell? ⟨g', k * 4 + 3, none⟩ = some (.string lb[k].v.t) := fun u2 => (u2.h.cell l2').trans (r3 u)
            have hnu2 : Nonempty (Under u.x) := ⟨⟨u.x, Below.refl _ _⟩⟩
            have hb2 : Below w2.heap.size w2 u.x := hbel.trans (u.h.mono hbel.size)
            have hb3 : Below w.heap.size w u.x := hbw2.trans (u.h.mono hbw2.size)
            go_wp2_with fail
            refine wp_region_under (by kernel_rfl) (by kernel_rfl) ?_
            repeat (go_big_quiet_step ((go_at_call 135; exact calls_under _ (HC.out _))))
            refine wpQuiet_nil ?_
            rintro _ ⟨u2, rfl⟩
            go_wp2_with fail
            go_roundw
            case rel => exact ⟨k + 1, by omega, by omega, by go_num, by rw [HS2.out, if_pos hO0], hb2.trans (u2.h.mono hb2.size)⟩
            case measure => simp [intOf]; omega
          · have e0 : (O == 0) = false := beq_eq_false_iff_ne.mpr hO0
            go_wp2_with fail
            refine wp_region_under (by kernel_rfl) (by kernel_rfl) ?_
            repeat (go_big_quiet_step (fail))
            refine wpQuiet_nil ?_
            rintro _ ⟨u, rfl⟩
            have l1' : g < u.x.heap.size := Nat.lt_of_lt_of_le l1 u.h.size
            have l2' : g' < u.x.heap.size := Nat.lt_of_lt_of_le l2 u.h.size
            have p0 : ∀ u2 : Under u.x, u2.x.cell? ⟨g, k * 4, none⟩ = some (.string la[k].name) := fun u2 => (u2.h.cell l1').trans (q0 u)
            have p1 : ∀ u2 : Under u.x, u2.x.cell? ⟨g, k * 4 + 1, none⟩ = some (.int .i64 la[k].v.k) := fun u2 => (u2.h.cell l1').trans (q1 u)
            have p2 : ∀ u2 : Under u.x, u2.x.cell? ⟨g, k * 4 + 2, none⟩ = some (.int .i64 la[k].v.n) := fun u2 => (u2.h.cell l1').trans (q2 u)
            have p3 : ∀ u2 : Under u.x, u2.x.cell? ⟨g, k * 4 + 3, none⟩ = some (.string la[k].v.t) := fun u2 => (u2.h.cell l1').trans (q3 u)
            have s0 : ∀ u2 : Under u.x, u2.x.cell? ⟨g', k * 4, none⟩ = some (.string lb[k].name) := fun u2 => (u2.h.cell l2').trans (r0 u)
            have s1 : ∀ u2 : Under u.x, u2.x.cell? ⟨g', k * 4 + 1, none⟩ = some (.int .i64 lb[k].v.k) := fun u2 => (u2.h.cell l2').trans (r1 u)
            have s2 : ∀ u2 : Under u.x, u2.x.cell? ⟨g', k * 4 + 2, none⟩ = some (.int .i64 lb[k].v.n) := fun u2 => (u2.h.cell l2').trans (r2 u)
            have s3 : ∀ u2 : Under u.x, u2.x.cell? ⟨g', k * 4 + 3, none⟩ = some (.string lb[k].v.t) := fun u2 => (u2.h.cell l2').trans (r3 u)
            have hnu2 : Nonempty (Under u.x) := ⟨⟨u.x, Below.refl _ _⟩⟩
            have hb2 : Below w2.heap.size w2 u.x := hbel.trans (u.h.mono hbel.size)
            have hb3 : Below w.heap.size w u.x := hbw2.trans (u.h.mono hbw2.size)
            go_wp2_with fail
            refine wp_region_under (by kernel_rfl) (by kernel_rfl) ?_
            repeat (go_big_quiet_step ((go_at_call 135; exact calls_under _ (HC.out _))))
            refine wpQuiet_nil ?_
            rintro _ ⟨u2, rfl⟩
            go_wp2_with fail
            go_ret
            exact ⟨by rw [HS2.out, if_neg hO0]; rfl, hb3.trans (u2.h.mono hb3.size)⟩
        · have hnb := toList_ne hnm
          have hcf : cF (ordV d) la[k] lb[k] = cB la[k].name lb[k].name := by unfold cF; rw [if_neg (fun h => hnm ((cB_zero _ _).mp h))]
          have hst2 := HS.out
          rw [hcf, if_neg (fun h => hnm ((cB_zero _ _).mp h)), cB_ne _ _ hnm] at hst2
          have hgl := leB_not la[k].name lb[k].name
          rw [hnb, Bool.or_false] at hgl
          clear hcf HS hnm
          cases hg : ltB lb[k].name la[k].name
          · rw [hg] at hst2 hgl
            have hR1 : R = -1 := by simpa using hst2
            have hgl2 : Op.bytesLess la[k].name.toList lb[k].name.toList = true := by simpa using hgl
            clear hst2 hgl hg
            go_wp2_with fail
            refine wp_region_under (by kernel_rfl) (by kernel_rfl) ?_
            repeat (go_big_quiet_step (fail))
            refine wpQuiet_nil ?_
            rintro _ ⟨u, rfl⟩
            have l1' : g < u.x.heap.size := Nat.lt_of_lt_of_le l1 u.h.size
            have l2' : g' < u.x.heap.size := Nat.lt_of_lt_of_le l2 u.h.size
            have p0 : ∀ u2 : Under u.x, u2.x.cell? ⟨g, k * 4, none⟩ = some (.string la[k].name) := fun u2 => (u2.h.cell l1').trans (q0 u)
            have p1 : ∀ u2 : Under u.x, u2.x.cell? ⟨g, k * 4 + 1, none⟩ = some (.int .i64 la[k].v.k) := fun u2 => (u2.h.cell l1').trans (q1 u)
            have p2 : ∀ u2 : Under u.x, u2.x.cell? ⟨g, k * 4 + 2, none⟩ = some (.int .i64 la[k].v.n) := fun u2 => (u2.h.cell l1').trans (q2 u)
            have p3 : ∀ u2 : Under u.x, u2.x.cell? ⟨g, k * 4 + 3, none⟩ = some (.string la[k].v.t) := fun u2 => (u2.h.cell l1').trans (q3 u)
            have s0 : ∀ u2 : Under u.x, u2.x.cell? ⟨g', k * 4, none⟩ = some (.string lb[k].name) := fun u2 => (u2.h.cell l2').trans (r0 u)
            have s1 : ∀ u2 : Under u.x, u2.x.cell? ⟨g', k * 4 + 1, none⟩ = some (.int .i64 lb[k].v.k) := fun u2 => (u2.h.cell l2').trans (r1 u)
            have s2 : ∀ u2 : Under u.x, u2.x.cell? ⟨g', k * 4 + 2, none⟩ = some (.int .i64 lb[k].v.n) := fun u2 => (u2.h.cell l2').trans (r2 u)
            have s3 : ∀ u2 : Under u.x, u2.x.cell? ⟨g', k * 4 + 3, none⟩ = some (.string lb[k].v.t) := fun u2 => (u2.h.cell l2').trans (r3 u)
            have hnu2 : Nonempty (Under u.x) := ⟨⟨u.x, Below.refl _ _⟩⟩
            have hb2 : Below w2.heap.size w2 u.x := hbel.trans (u.h.mono hbel.size)
            have hb3 : Below w.heap.size w u.x := hbw2.trans (u.h.mono hbw2.size)
            have hbit : ∀ u2 : Under u.x, Calls Tryz.prog 151 #[.bool false] u2.x fun e w' => e = .returned (.int .i64 0) ∧ w' = u2.x := fun u2 => l01Bit_any false _
            have HBit : Hid _ := hbit
            clear hbit
            go_wp2_with fail
            refine wp_region_under (by kernel_rfl) (by kernel_rfl) ?_
            repeat (go_big_quiet_step ((go_at_call 151; exact calls_under_same _ (HBit.out _))))
            refine wpQuiet_nil ?_
            rintro _ ⟨u2, rfl⟩
            go_wp2_with fail
            go_ret
            exact ⟨by rw [hR1]; rfl, hb3.trans (u2.h.mono hb3.size)⟩
          · rw [hg] at hst2 hgl
            have hR1 : R = 1 := by simpa using hst2
            have hgl2 : Op.bytesLess la[k].name.toList lb[k].name.toList = false := by simpa using hgl
            clear hst2 hgl hg
            go_wp2_with fail
            refine wp_region_under (by kernel_rfl) (by kernel_rfl) ?_
            repeat (go_big_quiet_step (fail))
            refine wpQuiet_nil ?_
            rintro _ ⟨u, rfl⟩
            have l1' : g < u.x.heap.size := Nat.lt_of_lt_of_le l1 u.h.size
            have l2' : g' < u.x.heap.size := Nat.lt_of_lt_of_le l2 u.h.size
            have p0 : ∀ u2 : Under u.x, u2.x.cell? ⟨g, k * 4, none⟩ = some (.string la[k].name) := fun u2 => (u2.h.cell l1').trans (q0 u)
            have p1 : ∀ u2 : Under u.x, u2.x.cell? ⟨g, k * 4 + 1, none⟩ = some (.int .i64 la[k].v.k) := fun u2 => (u2.h.cell l1').trans (q1 u)
            have p2 : ∀ u2 : Under u.x, u2.x.cell? ⟨g, k * 4 + 2, none⟩ = some (.int .i64 la[k].v.n) := fun u2 => (u2.h.cell l1').trans (q2 u)
            have p3 : ∀ u2 : Under u.x, u2.x.cell? ⟨g, k * 4 + 3, none⟩ = some (.string la[k].v.t) := fun u2 => (u2.h.cell l1').trans (q3 u)
            have s0 : ∀ u2 : Under u.x, u2.x.cell? ⟨g', k * 4, none⟩ = some (.string lb[k].name) := fun u2 => (u2.h.cell l2').trans (r0 u)
            have s1 : ∀ u2 : Under u.x, u2.x.cell? ⟨g', k * 4 + 1, none⟩ = some (.int .i64 lb[k].v.k) := fun u2 => (u2.h.cell l2').trans (r1 u)
            have s2 : ∀ u2 : Under u.x, u2.x.cell? ⟨g', k * 4 + 2, none⟩ = some (.int .i64 lb[k].v.n) := fun u2 => (u2.h.cell l2').trans (r2 u)
            have s3 : ∀ u2 : Under u.x, u2.x.cell? ⟨g', k * 4 + 3, none⟩ = some (.string lb[k].v.t) := fun u2 => (u2.h.cell l2').trans (r3 u)
            have hnu2 : Nonempty (Under u.x) := ⟨⟨u.x, Below.refl _ _⟩⟩
            have hb2 : Below w2.heap.size w2 u.x := hbel.trans (u.h.mono hbel.size)
            have hb3 : Below w.heap.size w u.x := hbw2.trans (u.h.mono hbw2.size)
            have hbit : ∀ u2 : Under u.x, Calls Tryz.prog 151 #[.bool true] u2.x fun e w' => e = .returned (.int .i64 1) ∧ w' = u2.x := fun u2 => l01Bit_any true _
            have HBit : Hid _ := hbit
            clear hbit
            go_wp2_with fail
            refine wp_region_under (by kernel_rfl) (by kernel_rfl) ?_
            repeat (go_big_quiet_step ((go_at_call 151; exact calls_under_same _ (HBit.out _))))
            refine wpQuiet_nil ?_
            rintro _ ⟨u2, rfl⟩
            go_wp2_with fail
            go_ret
            exact ⟨by rw [hR1]; rfl, hb3.trans (u2.h.mono hb3.size)⟩
      · have hkl : ¬ (k : Int) < (lb.length : Int) := by omega
        have hR1 : R = 1 := by rw [HT.out]; exact lexG_end2 _ la lb k hlt (by omega)
        have hgt : (lb.length : Int) < (la.length : Int) := by omega
        go_wp2_with (go_at_call 151; refine (l01Bit_any _ _).mono ?_; rintro e w3 ⟨rfl, rfl⟩)
        go_ret
        exact ⟨by rw [hR1]; simp, hbw2⟩
    · have hR1 := lexG_end1 (cF (ordV d)) la lb k (by omega)
      rw [← HT.out] at hR1
      by_cases h2 : k < lb.length
      · rw [if_pos h2] at hR1
        have hgt : ¬ (lb.length : Int) < (la.length : Int) := by omega
        go_wp2_with (go_at_call 151; refine (l01Bit_any _ _).mono ?_; rintro e w3 ⟨rfl, rfl⟩)
        go_ret
        exact ⟨by rw [hR1]; simp, hbw2⟩
      · rw [if_neg h2] at hR1; exact absurd hR1 HZ.out

theorem plain_t {d : Nat} {v : Val} (hf : fits d v = true) (h3 : v.k ≠ 3) (h4 : v.k ≠ 4) (h5 : v.k ≠ 5) : v.t = em := by
  rw [fits_base d v h4 h5] at hf
  unfold base at hf
  split at hf
  · rw [decide_eq_true_eq] at hf; exact empty_of _ hf.2
  · split at hf
    · rw [decide_eq_true_eq] at hf; exact empty_of _ hf.2.2
    · split at hf
      · rw [decide_eq_true_eq] at hf; exact empty_of _ hf.2.2
      · first | cases hf | (rw [if_neg h3] at hf; cases hf)
theorem l01Order_at : ∀ d : Nat, l01OrderAt d
  | d => by
    intro a b w hs hs' ha hb
    by_cases he : a = b
    · subst he; rw [ordV_refl]; exact l01Order_same a.k a.n a.t w
    · by_cases hk : a.k = b.k
      · by_cases hn : a.n = b.n
        · have ht : a.t ≠ b.t := fun e => he (val_ext hk hn e)
          by_cases h4 : a.k = 4
          · obtain ⟨e, la, rfl, ia, _, _, alla⟩ := fits_items h4 ha
            obtain ⟨e2, lb, hee, ib, _, _, allb⟩ := fits_items (hk ▸ h4) hb
            have : e2 = e := by omega
            subst this
            rw [ordV_list e2 a b la lb hk hn h4 ia ib, ← hk, ← hn, h4]
            exact l01Order_list e2 (l01Order_at e2) a.n a.t b.t la lb w hs hs' ht ia ib alla allb
          · by_cases h5 : a.k = 5
            · obtain ⟨e, la, rfl, ia, _, _, _, alla⟩ := fits_fields h5 ha
              obtain ⟨e2, lb, hee, ib, _, _, _, allb⟩ := fits_fields (hk ▸ h5) hb
              have : e2 = e := by omega
              subst this
              rw [ordV_doc e2 a b la lb hk hn h5 ia ib, ← hk, ← hn, h5]
              exact l01Order_doc e2 (l01Order_at e2) a.n a.t b.t la lb w hs hs' ht ia ib alla allb
            · rw [ordV_t d a b hk hn h4 h5]
              by_cases h3 : a.k = 3
              · rw [← hk, ← hn, h3]; exact l01Order_text a.n a.t b.t w ht
              · exact absurd ((plain_t ha h3 h4 h5).trans (plain_t hb (hk ▸ h3) (hk ▸ h4) (hk ▸ h5)).symm) ht
        · rw [ordV_n d a b hk hn, ← hk]; exact l01Order_n a.k a.n b.n a.t b.t w hn
      · rw [ordV_k d a b hk]; exact l01Order_k a.k a.n b.k b.n a.t b.t w hk

end Go.Proofs.YtdchhjnmhnehiaaGreatDoor

/- What the program's order of values answers, for every two right values. -/
namespace Go.Proofs.YtdchhjnmhnehiaaGreatDoor
open Go.RowKit
set_option linter.unusedVariables false

end Go.Proofs.YtdchhjnmhnehiaaGreatDoor

/- What the library's search among fields that rise answers, for every name. -/
namespace Go.Proofs.YtdchhjnmhnehiaaGreatDoor
open Go.RowKit
set_option linter.unusedVariables false

set_option maxRecDepth 4000 in
set_option maxHeartbeats 1000000 in
theorem compareName_any (m : ByteArray) (k n : Int) (t nm : ByteArray) (w : World) :
    Calls Tryz.prog 155 #[.agg #[.string m, .int .i64 k, .int .i64 n, .string t], .string nm] w fun e w' => e = .returned (.int .i64 (cB m nm)) ∧ Below w.heap.size w w' := by
  go_enter Tryz.func155, Tryz.ntmps155
  go_wp2_with (go_at_call 160; refine (cmpStr_any _ _ _).mono ?_; rintro e w1 ⟨rfl, rfl⟩)
  go_ret
  exact ⟨rfl, (Below.refl _ _).alloc (Nat.le_refl _) _⟩

/-- What a search for a name answers: its place, and whether it is there. -/
def Found (l : List Fld) (nm : ByteArray) (e : Ending) : Prop := ∃ (i : Nat) (b : Bool), e = .returned (.tuple #[.int .i64 i, .bool b]) ∧ Place l nm i b
theorem Found.mk {l : List Fld} {nm : ByteArray} {e : Ending} (i : Nat) (b : Bool) (h : e = .returned (.tuple #[.int .i64 i, .bool b])) (hp : Place l nm i b) : Found l nm e := ⟨i, b, h, hp⟩
set_option maxRecDepth 8000 in
set_option maxHeartbeats 2000000 in
theorem search_any (p : Option Addr) (cap : Nat) (l : List Fld) (nm : ByteArray) (w : World) (hr : RowF w p l) (hs : Rise l) (hl : l.length ≤ 1048576) :
    Calls Tryz.prog 154 #[.slice p l.length cap, .string nm, .func (.func 155) #[] #[]] w fun e w' => Found l nm e ∧ Below w.heap.size w w' := by
  have HR : Hid (RowF _ _ _) := hr
  have HS : Hid (Rise _) := hs
  clear hr hs
  go_enter Tryz.func154, Tryz.ntmps154
  go_wp2_with fail
  go_loopw [9, 10] (fun u v wr => ∃ i j : Nat, i ≤ j ∧ j ≤ l.length ∧ u = .int .i64 i ∧ v = .int .i64 j ∧ (∀ q (h : q < l.length), q < i → ltB l[q].name nm = true) ∧ (∀ q (h : q < l.length), j ≤ q → ltB l[q].name nm = false) ∧ Below w.heap.size w wr) (fun u v _ => (intOf v).toNat - (intOf u).toNat)
  case atStart => exact ⟨0, l.length, Nat.zero_le _, Nat.le_refl _, rfl, rfl, fun q h h2 => absurd h2 (by omega), fun q h h2 => absurd h2 (by omega), Below.refl _ _⟩
  case round =>
    obtain ⟨i, j, hij, hj, rfl, rfl, hlo, hhi, hbel⟩ := hrel
    have HL : Hid _ := hlo
    have HH : Hid _ := hhi
    have hz := hbel.size
    clear hlo hhi
    by_cases hlt : i < j
    · rcases HR.out.next hbel with h0 | ⟨g, rfl, R⟩
      · subst h0; simp at hj; omega
      · have hlt2 : (i : Int) < (j : Int) := by omega
        have hh1 : (i + j) / 2 < l.length := by omega
        have hh2 : ((i : Int) + (j : Int)) / 2 < (l.length : Int) := by omega
        obtain ⟨x0, x1, x2, x3⟩ := R.cells ((i + j) / 2) hh1
        have hgl := R.lt
        clear R
        cases hc : ltB l[(i + j) / 2].name nm
        · have hnl : ¬ cB l[(i + j) / 2].name nm < 0 := by have := cB_lt l[(i + j) / 2].name nm; rw [hc] at this; simpa using this
          have HC : Hid _ := hc
          clear hc
          go_wp2_with fail
          refine (compareName_any _ _ _ _ _ _).mono ?_
          rintro e w1 ⟨rfl, hb⟩
          go_wp2_with fail
          go_roundw
          case rel =>
            refine ⟨i, (i + j) / 2, by omega, by omega, rfl, congrArg (Value.int .i64) (by omega), HL.out, ?_, hbel.trans (hb.mono hz)⟩
            intro q hq hge
            cases hq2 : ltB l[q].name nm
            · rfl
            · rcases Nat.lt_or_ge ((i + j) / 2) q with hlt3 | hge2
              · have := ltB_trans (HS.out _ _ hh1 hq hlt3) hq2
                rw [HC.out] at this; cases this
              · obtain rfl : q = (i + j) / 2 := by omega
                rw [HC.out] at hq2; cases hq2
          case measure => simp [intOf]; omega
        · have hnl : cB l[(i + j) / 2].name nm < 0 := by have := cB_lt l[(i + j) / 2].name nm; rw [hc] at this; simpa using this
          have HC : Hid _ := hc
          clear hc
          go_wp2_with fail
          refine (compareName_any _ _ _ _ _ _).mono ?_
          rintro e w1 ⟨rfl, hb⟩
          go_wp2_with fail
          go_roundw
          case rel =>
            refine ⟨(i + j) / 2 + 1, j, by omega, by omega, congrArg (Value.int .i64) (by omega), rfl, ?_, HH.out, hbel.trans (hb.mono hz)⟩
            intro q hq hlt3
            rcases Nat.lt_or_ge q ((i + j) / 2) with h3 | h3
            · exact ltB_trans (HS.out _ _ hq hh1 h3) HC.out
            · obtain rfl : q = (i + j) / 2 := by omega
              exact HC.out
          case measure => simp [intOf]; omega
    · obtain rfl : i = j := by omega
      by_cases hi : i < l.length
      · rcases HR.out.next hbel with h0 | ⟨g, rfl, R⟩
        · subst h0; simp at hi
        · obtain ⟨x0, x1, x2, x3⟩ := R.cells i hi
          have hi2 : (i : Int) < (l.length : Int) := by omega
          have hd2 : decide ((i : Int) < (l.length : Int)) = true := by simp; omega
          have hgl := R.lt
          clear R
          go_wp2_with fail
          refine (compareName_any _ _ _ _ _ _).mono ?_
          rintro e w1 ⟨rfl, hb⟩
          obtain ⟨b, hb0⟩ : ∃ b, b = (cB l[i].name nm == 0) := ⟨_, rfl⟩
          go_wp2_with fail
          go_ret2
          refine ⟨Found.mk i b (by rw [hb0]; rfl) ⟨hj, HL.out, HH.out, ?_⟩, hbel.trans (hb.mono hz)⟩
          rw [hb0, beq_iff_eq, cB_zero]
          exact ⟨fun h => ⟨hi, h⟩, fun ⟨_, h⟩ => h⟩
      · have hi2 : ¬ (i : Int) < (l.length : Int) := by omega
        have hd2 : decide ((i : Int) < (l.length : Int)) = false := by simp; omega
        go_wp2_with fail
        go_ret2
        exact ⟨Found.mk i false rfl ⟨hj, HL.out, HH.out, ⟨fun h => absurd h (by simp), fun ⟨h, _⟩ => absurd h hi⟩⟩, hbel⟩

set_option maxRecDepth 4000 in
set_option maxHeartbeats 1000000 in
theorem fieldPlace_any (p : Option Addr) (cap : Nat) (l : List Fld) (nm : ByteArray) (w : World) (hr : RowF w p l) (hs : Rise l) (hl : l.length ≤ 1048576) :
    Calls Tryz.prog 141 #[.slice p l.length cap, .string nm] w fun e w' => Found l nm e ∧ Below w.heap.size w w' := by
  have HR : Hid (RowF _ _ _) := hr
  have HS : Hid (Rise _) := hs
  clear hr hs
  go_enter Tryz.func141, Tryz.ntmps141
  go_wp2_with fail
  refine (search_any p cap l nm _ HR.out HS.out hl).mono ?_
  rintro e w1 ⟨⟨i, b, rfl, hp⟩, hb⟩
  have HP : Hid _ := hp
  clear hp
  go_wp2_with fail
  go_ret2
  exact ⟨Found.mk i b rfl HP.out, hb⟩

end Go.Proofs.YtdchhjnmhnehiaaGreatDoor
