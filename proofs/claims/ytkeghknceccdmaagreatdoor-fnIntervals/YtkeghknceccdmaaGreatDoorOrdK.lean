/- What the program's order of values answers, for every two right values. -/
import Derived.Test.YtkeghknceccdmaaGreatDoorOrdJ
import Derived.Test.YtkeghknceccdmaaGreatDoorOrdT
import Derived.Deep.RegionWith
namespace Go.Proofs.YtkeghknceccdmaaGreatDoor
open Go.RowKit
set_option linter.unusedVariables false

set_option maxRecDepth 4000 in
set_option maxHeartbeats 4000000 in
theorem compare_list (d : Nat) (ih : compareAt d) (n : Int) (t t' : ByteArray) (la lb : List Val) (w : World) (hs : t.size ≤ 1048576) (hs' : t'.size ≤ 1048576) (h : t ≠ t') (hi : items t = some la) (hi' : items t' = some lb)
    (hall : ∀ u ∈ la, fits d u = true ∧ u.t.size ≤ 1048576) (hall' : ∀ u ∈ lb, fits d u = true ∧ u.t.size ≤ 1048576) (hla : la.length ≤ 1048576) (hlb : lb.length ≤ 1048576) :
    Calls Tryz.prog 202 #[.agg #[.int .i64 4, .int .i64 n, .string t], .agg #[.int .i64 4, .int .i64 n, .string t']] w fun e w' => e = .returned (.int .i64 (lexG (ordV d) la lb)) ∧ Below w.heap.size w w' := by
  have hb := toList_ne h
  have hk0 : ∀ x : Int, cI x x = 0 := fun x => (cI_zero _ _).mpr rfl
  have HK0 : ∀ (x : Int) (W : World), Calls Tryz.prog 244 #[.int .i64 x, .int .i64 x] W fun e w' => e = .returned (.int .i64 0) ∧ w' = W := fun x W => by have := cmpInt_any x x W; rw [hk0] at this; exact this
  have HK : Hid _ := HK0
  have HI : Hid _ := hi
  have HI' : Hid _ := hi'
  have HA : Hid _ := hall
  have HA' : Hid _ := hall'
  have HIH : Hid (compareAt d) := ih
  clear HK0 hk0 hi hi' hall hall' ih h
  go_enter Tryz.func202, Tryz.ntmps202
  go_wp2_with fail
  refine still_tail_at 10 (by kernel_rfl) (by kernel_rfl) ?_
  intro V hV
  have X := Two.drawn hV
  have Y : ∀ o, Two w (V.alloc o) (.int .i64 4) (.int .i64 n) (.string t) (.int .i64 4) (.int .i64 n) (.string t') := fun o => X.step ((Below.refl _ _).alloc (Nat.le_refl _) o)
  have HY : Hid _ := Y
  have a0 : ∀ o, (V.alloc o).cell? ⟨w.heap.size, 0, none⟩ = some (.int .i64 4) := fun o => (Y o).c0
  obtain ⟨hbw, hlt, c0, c1, c2, d0, d1, d2⟩ := X
  clear hV Y
  simp only [List.take_succ_cons, List.take_zero, List.drop_succ_cons, List.drop_zero]
  repeat still_step
  still_call (HK.out 4 _)
  repeat still_step
  still_call (HK.out n _)
  refine wpStill_nil ?_
  go_wp2_with (go_at_call 242; refine (or_none _ _ _ (by simp [go_sem]) (by simp [go_sem])).mono ?_; rintro e w1 ⟨rfl, rfl⟩)
  have Z := HY.out (.cells #[.int .i64 0, .int .i64 0] 3)
  generalize V.alloc (.cells #[.int .i64 0, .int .i64 0] 3) = W at Z ⊢
  have hbw0 := Z.bel
  have g2 := Z.c2
  have f2 := Z.d2
  clear a0 HY hbw hlt c0 c1 c2 d0 d1 d2
  have hlt0 := Z.lt
  have Z1 := Z.step (Below.refl _ _).drew
  clear Z
  go_region_with (first | (go_at_call_of 189 (Value.string t); refine (itemsIn_row t la _ hs HI.out).mono ?_; rintro e w1 ⟨⟨p, c, rfl, RA⟩, hb1⟩; have X1 := Two.step (by assumption) hb1; have g2 := X1.c2; have f2 := X1.d2) | (go_at_call_of 189 (Value.string t'); refine (itemsIn_row t' lb _ hs' HI'.out).mono ?_; rintro e w2 ⟨⟨p', c', rfl, RB⟩, hb2⟩; have X2 := Two.step (by assumption) hb2; have g2 := X2.c2; have f2 := X2.d2; have RA2 := RowV.next RA hb2) | (go_at_call 255; refine (compareRows d HIH.out _ _ _ _ la lb _ RA2 RB hla hlb HA.out HA'.out).mono ?_; rintro e w3 ⟨rfl, hb3⟩; have X3 := X2.step hb3))
  all_goals go_wp2_with fail
  all_goals go_ret
  all_goals exact ⟨rfl, X3.bel⟩

set_option maxRecDepth 4000 in
set_option maxHeartbeats 4000000 in
theorem compare_doc (d : Nat) (ih : compareAt d) (n : Int) (t t' : ByteArray) (la lb : List Fld) (w : World) (hs : t.size ≤ 1048576) (hs' : t'.size ≤ 1048576) (h : t ≠ t') (hi : fields t = some la) (hi' : fields t' = some lb)
    (hall : ∀ f ∈ la, fits d f.v = true ∧ f.v.t.size ≤ 1048576) (hall' : ∀ f ∈ lb, fits d f.v = true ∧ f.v.t.size ≤ 1048576) (hla : la.length ≤ 1048576) (hlb : lb.length ≤ 1048576) :
    Calls Tryz.prog 202 #[.agg #[.int .i64 5, .int .i64 n, .string t], .agg #[.int .i64 5, .int .i64 n, .string t']] w fun e w' => e = .returned (.int .i64 (lexG (cF (ordV d)) la lb)) ∧ Below w.heap.size w w' := by
  have hb := toList_ne h
  have hk0 : ∀ x : Int, cI x x = 0 := fun x => (cI_zero _ _).mpr rfl
  have HK0 : ∀ (x : Int) (W : World), Calls Tryz.prog 244 #[.int .i64 x, .int .i64 x] W fun e w' => e = .returned (.int .i64 0) ∧ w' = W := fun x W => by have := cmpInt_any x x W; rw [hk0] at this; exact this
  have HK : Hid _ := HK0
  have HI : Hid _ := hi
  have HI' : Hid _ := hi'
  have HA : Hid _ := hall
  have HA' : Hid _ := hall'
  have HIH : Hid (compareAt d) := ih
  clear HK0 hk0 hi hi' hall hall' ih h
  go_enter Tryz.func202, Tryz.ntmps202
  go_wp2_with fail
  refine still_tail_at 10 (by kernel_rfl) (by kernel_rfl) ?_
  intro V hV
  have X := Two.drawn hV
  have Y : ∀ o, Two w (V.alloc o) (.int .i64 5) (.int .i64 n) (.string t) (.int .i64 5) (.int .i64 n) (.string t') := fun o => X.step ((Below.refl _ _).alloc (Nat.le_refl _) o)
  have HY : Hid _ := Y
  have a0 : ∀ o, (V.alloc o).cell? ⟨w.heap.size, 0, none⟩ = some (.int .i64 5) := fun o => (Y o).c0
  obtain ⟨hbw, hlt, c0, c1, c2, d0, d1, d2⟩ := X
  clear hV Y
  simp only [List.take_succ_cons, List.take_zero, List.drop_succ_cons, List.drop_zero]
  repeat still_step
  still_call (HK.out 5 _)
  repeat still_step
  still_call (HK.out n _)
  refine wpStill_nil ?_
  go_wp2_with (go_at_call 242; refine (or_none _ _ _ (by simp [go_sem]) (by simp [go_sem])).mono ?_; rintro e w1 ⟨rfl, rfl⟩)
  have Z := HY.out (.cells #[.int .i64 0, .int .i64 0] 3)
  generalize V.alloc (.cells #[.int .i64 0, .int .i64 0] 3) = W at Z ⊢
  have hbw0 := Z.bel
  have g2 := Z.c2
  have f2 := Z.d2
  clear a0 HY hbw hlt c0 c1 c2 d0 d1 d2
  have hlt0 := Z.lt
  have Z1 := Z.step (Below.refl _ _).drew
  clear Z
  go_region_with (first | (go_at_call_of 190 (Value.string t); refine (fieldsIn_row t la _ hs HI.out).mono ?_; rintro e w1 ⟨⟨p, c, rfl, RA⟩, hb1⟩; have X1 := Two.step (by assumption) hb1; have g2 := X1.c2; have f2 := X1.d2) | (go_at_call_of 190 (Value.string t'); refine (fieldsIn_row t' lb _ hs' HI'.out).mono ?_; rintro e w2 ⟨⟨p', c', rfl, RB⟩, hb2⟩; have X2 := Two.step (by assumption) hb2; have g2 := X2.c2; have f2 := X2.d2; have RA2 := RowF.next RA hb2) | (go_at_call 256; refine (compareRowsF d HIH.out _ _ _ _ la lb _ RA2 RB hla hlb HA.out HA'.out).mono ?_; rintro e w3 ⟨rfl, hb3⟩; have X3 := X2.step hb3))
  all_goals go_wp2_with fail
  all_goals go_ret
  all_goals exact ⟨rfl, X3.bel⟩

theorem compare_at : ∀ d : Nat, compareAt d
  | d => by
    intro a b w hs hs' ha hb
    by_cases he : a = b
    · subst he; rw [ordV_refl]; exact compare_same a.k a.n a.t w
    · by_cases hk : a.k = b.k
      · by_cases hn : a.n = b.n
        · have ht : a.t ≠ b.t := fun e => he (val_ext hk hn e)
          by_cases h4 : a.k = 4
          · obtain ⟨e, la, rfl, ia, _, _, alla⟩ := fits_items h4 ha
            obtain ⟨e2, lb, hee, ib, _, _, allb⟩ := fits_items (hk ▸ h4) hb
            have : e2 = e := by omega
            subst this
            have n1 := (items_len a.t.size a.t la (Nat.le_refl _) ia).1
            have n2 := (items_len b.t.size b.t lb (Nat.le_refl _) ib).1
            rw [ordV_list e2 a b la lb hk hn h4 ia ib, ← hk, ← hn, h4]
            exact compare_list e2 (compare_at e2) a.n a.t b.t la lb w hs hs' ht ia ib (fun u hu => ⟨(alla u hu).1, Nat.le_trans (alla u hu).2 hs⟩) (fun u hu => ⟨(allb u hu).1, Nat.le_trans (allb u hu).2 hs'⟩) (by omega) (by omega)
          · by_cases h5 : a.k = 5
            · obtain ⟨e, la, rfl, ia, _, _, _, alla⟩ := fits_fields h5 ha
              obtain ⟨e2, lb, hee, ib, _, _, _, allb⟩ := fits_fields (hk ▸ h5) hb
              have : e2 = e := by omega
              subst this
              have n1 := (fields_len a.t.size a.t la (Nat.le_refl _) ia).1
              have n2 := (fields_len b.t.size b.t lb (Nat.le_refl _) ib).1
              rw [ordV_doc e2 a b la lb hk hn h5 ia ib, ← hk, ← hn, h5]
              exact compare_doc e2 (compare_at e2) a.n a.t b.t la lb w hs hs' ht ia ib (fun u hu => ⟨(alla u hu).1, Nat.le_trans (alla u hu).2.1 hs⟩) (fun u hu => ⟨(allb u hu).1, Nat.le_trans (allb u hu).2.1 hs'⟩) (by omega) (by omega)
            · rw [ordV_t d a b hk hn h4 h5, ← hk, ← hn]
              exact compare_t a.k a.n a.t b.t w ht h4 h5
        · rw [ordV_n d a b hk hn, ← hk]; exact compare_n a.k a.n b.n a.t b.t w hn
      · rw [ordV_k d a b hk]; exact compare_k a.k a.n b.k b.n a.t b.t w hk

end Go.Proofs.YtkeghknceccdmaaGreatDoor
