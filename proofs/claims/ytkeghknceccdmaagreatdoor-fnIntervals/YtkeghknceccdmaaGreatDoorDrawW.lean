/- The specification's drawn values, one step deeper. -/
import Derived.Test.YtkeghknceccdmaaGreatDoorDrawV
namespace Go.Proofs.YtkeghknceccdmaaGreatDoor
open Go.RowKit
set_option linter.unusedVariables false

theorem costV_ge : ∀ d, d ≤ costV d
  | 0 => by unfold costV; omega
  | d + 1 => by have := costV_ge d; unfold costV; omega
theorem own_ne {W : World} {B n : Nat} {e : TypeId} {size g : Nat} {v : Value} {xs : List Value} (h : W.ownsRow B e size v n xs) (hg : g < B) : v.ownBlock = none ∨ v.ownBlock ≠ some g := by
  right; intro e'; have := (h.lt g e').1; omega

set_option maxRecDepth 4000 in
set_option maxHeartbeats 4000000 in
theorem val_succ (d : Nat) (ih : ValAt d) (ihd : DocAt d) : ValAt (d + 1) := by
  intro g x cap zs a w h ha
  have hg := h.lt
  have HC : Hid (CodeAt _ _ _ _) := h.code
  obtain ⟨i0, hi0, hz0, hz1, hz2⟩ := info_parts infoV
  have HI : Hid (ValAt _) := ih
  have HID : Hid (DocAt _) := ihd
  have hdc := costV_ge d
  obtain ⟨C, hC⟩ : ∃ C, C = costV d := ⟨_, rfl⟩
  have hC1 : costV (d + 1) = 30 + 5 * C := by rw [hC]; rfl
  rw [hC1] at ha ⊢
  rw [← hC] at hdc
  have HCD : Hid (_ = _) := hC
  rw [show (((d + 1 : Nat)) : Int) = (d : Int) + 1 by omega]
  have hd0 : ¬ ((d : Int) + 1 = 0) := by omega
  have hde : (((d : Int) + 1) == 0) = false := beq_eq_false_iff_ne.mpr hd0
  have hdw : IntKind.i64.wrap ((d : Int) + 1 - 1) = (d : Int) := by rw [IntKind.wrap_i64]; omega
  have HX0 : Hid _ := DrawX.start h
  clear h ih ihd hC hC1
  go_enter Tryz.func48, Tryz.ntmps48
  go_wp2_with fail
  refine (next_any g x cap zs a 8 _ HX0.out.drew.2 (by omega) (by omega) (by omega)).mono ?_
  rintro e w2 ⟨⟨z, rfl, hz⟩, d1⟩
  have HX1 : Hid _ := HX0.out.step hg d1
  have hl2 := HX1.out.lt
  clear d1 HX0
  rcases (show z = 0 ∨ z = 1 ∨ z = 2 ∨ z = 3 ∨ z = 4 ∨ z = 5 ∨ z = 6 ∨ z = 7 by omega) with rfl | rfl | rfl | rfl | rfl | rfl | rfl | rfl
  case inl =>
    obtain ⟨c0, c1, c2, f0, f1, f2⟩ := HX1.out.cells
    go_wp2_with fail
    refine bodyPost_ret (v := .agg #[.int .i64 0, .int .i64 0, .string em]) (by simp [results, Tryz.results48, go_sem, *]) rfl ⟨⟨⟨0, 0, em⟩, rfl, ok_null⟩, ?_⟩
    exact HX1.out.fin HC.out hg (by omega) _ _ _
  case inr.inl =>
    go_wp2_with fail
    refine (next_any g x cap zs (a + 1) 2 _ HX1.out.drew.2 (by omega) (by omega) (by omega)).mono ?_
    rintro e w3 ⟨⟨z3, rfl, hz3⟩, d3⟩
    have HX3 : Hid _ := HX1.out.step hg d3
    obtain ⟨c0, c1, c2, f0, f1, f2⟩ := HX3.out.cells
    clear d3
    go_wp2_with fail
    refine bodyPost_ret (v := .agg #[.int .i64 1, .int .i64 z3, .string em]) (by simp [results, Tryz.results48, go_sem, *]) rfl ⟨⟨⟨1, z3, em⟩, rfl, ok_bool _ (by omega)⟩, ?_⟩
    exact HX3.out.fin HC.out hg (by omega) _ _ _
  case inr.inr.inl =>
    go_wp2_with fail
    refine (next_any g x cap zs (a + 1) 9 _ HX1.out.drew.2 (by omega) (by omega) (by omega)).mono ?_
    rintro e w3 ⟨⟨z3, rfl, hz3⟩, d3⟩
    have HX3 : Hid _ := HX1.out.step hg d3
    clear d3
    go_wp2_with fail
    refine (l01Int_any ((z3 : Int) - 3) _).mono ?_
    rintro e w4 ⟨rfl, hb⟩
    have HX4 : Hid _ := HX3.out.below HC.out hg hb
    obtain ⟨c0, c1, c2, f0, f1, f2⟩ := HX4.out.cells
    clear hb
    go_wp2_with fail
    refine bodyPost_ret (v := .agg #[.int .i64 2, .int .i64 ((z3 : Int) - 3), .string em]) (by simp [results, Tryz.results48, go_sem, *]) rfl ⟨⟨⟨2, ((z3 : Int) - 3), em⟩, rfl, ok_int _ (by omega) (by omega)⟩, ?_⟩
    exact HX4.out.fin HC.out hg (by omega) _ _ _
  case inr.inr.inr.inl =>
    go_wp2_with fail
    refine (next_any g x cap zs (a + 1) 9 _ HX1.out.drew.2 (by omega) (by omega) (by omega)).mono ?_
    rintro e w3 ⟨⟨z3, rfl, hz3⟩, d3⟩
    have HX3 : Hid _ := HX1.out.step hg d3
    clear d3
    go_wp2_with fail
    refine (l01Int_any ((z3 : Int) - 3) _).mono ?_
    rintro e w4 ⟨rfl, hb⟩
    have HX4 : Hid _ := HX3.out.below HC.out hg hb
    obtain ⟨c0, c1, c2, f0, f1, f2⟩ := HX4.out.cells
    clear hb
    go_wp2_with fail
    refine bodyPost_ret (v := .agg #[.int .i64 2, .int .i64 ((z3 : Int) - 3), .string em]) (by simp [results, Tryz.results48, go_sem, *]) rfl ⟨⟨⟨2, ((z3 : Int) - 3), em⟩, rfl, ok_int _ (by omega) (by omega)⟩, ?_⟩
    exact HX4.out.fin HC.out hg (by omega) _ _ _
  case inr.inr.inr.inr.inl =>
    have HX3 : Hid _ := HX1.out.below HC.out hg ((Below.refl _ _).alloc (Nat.le_refl _) (.cells #[.string ⟨#[]⟩, .string ⟨#[97]⟩, .string ⟨#[97, 98]⟩, .string ⟨#[98]⟩, .string ⟨#[0]⟩] 9))
    have hgl : g < w2.heap.size := by have := HX1.out.lt; omega
    go_wp2_with fail
    refine (pick_any g x cap zs (a + 1) w2.heap.size 5 [⟨#[]⟩, ⟨#[97]⟩, ⟨#[97, 98]⟩, ⟨#[98]⟩, ⟨#[0]⟩] _ HX3.out.drew.2 (by omega) (by decide) (by decide) (by omega) (by
      intro i hi
      rcases (show i = 0 ∨ i = 1 ∨ i = 2 ∨ i = 3 ∨ i = 4 by simp at hi; omega) with rfl | rfl | rfl | rfl | rfl <;> simp [go_sem])).mono ?_
    rintro e w3 ⟨⟨t, ht, rfl⟩, d3⟩
    have hts : t.size ≤ 300 := by simp at ht; rcases ht with rfl | rfl | rfl | rfl | rfl <;> decide
    have HX4 : Hid _ := HX3.out.step hg d3
    clear d3 ht
    go_wp2_with fail
    refine (l01Text_any t _).mono ?_
    rintro e w4 ⟨rfl, hb⟩
    have HX5 : Hid _ := HX4.out.below HC.out hg hb
    obtain ⟨c0, c1, c2, f0, f1, f2⟩ := HX5.out.cells
    clear hb
    go_wp2_with fail
    refine bodyPost_ret (v := .agg #[.int .i64 3, .int .i64 0, .string t]) (by simp [results, Tryz.results48, go_sem, *]) rfl ⟨⟨⟨3, 0, t⟩, rfl, ok_text _ hts⟩, ?_⟩
    exact HX5.out.fin HC.out hg (by omega) _ _ _
  case inr.inr.inr.inr.inr.inl =>
    have HX3 : Hid _ := HX1.out.below HC.out hg ((Below.refl _ _).alloc (Nat.le_refl _) (.cells #[.int .i64 1000000000000, .int .i64 (-1000000000000), .int .i64 300] 3))
    have hgl : g < w2.heap.size := by have := HX1.out.lt; omega
    go_wp2_with fail
    refine (next_any g x cap zs (a + 1) 3 _ HX3.out.drew.2 (by omega) (by omega) (by omega)).mono ?_
    rintro e w3 ⟨⟨z3, rfl, hz3⟩, d3⟩
    have HX4 : Hid _ := HX3.out.step hg d3
    obtain ⟨N, hN0, hN1, hN⟩ : ∃ N : Int, -1000000000000 ≤ N ∧ N ≤ 1000000000000 ∧ w3.cell? ⟨w2.heap.size, z3, none⟩ = some (.int .i64 N) := by
      rcases (show z3 = 0 ∨ z3 = 1 ∨ z3 = 2 by omega) with rfl | rfl | rfl
      · exact ⟨1000000000000, by omega, by omega, d3.1.cell (by simp [go_sem]) (by intro e; injection e with e; simp at e; omega)⟩
      · exact ⟨-1000000000000, by omega, by omega, d3.1.cell (by simp [go_sem]) (by intro e; injection e with e; simp at e; omega)⟩
      · exact ⟨300, by omega, by omega, d3.1.cell (by simp [go_sem]) (by intro e; injection e with e; simp at e; omega)⟩
    clear d3
    go_wp2_with fail
    refine (l01Int_any N _).mono ?_
    rintro e w4 ⟨rfl, hb⟩
    have HX5 : Hid _ := HX4.out.below HC.out hg hb
    obtain ⟨c0, c1, c2, f0, f1, f2⟩ := HX5.out.cells
    clear hb
    go_wp2_with fail
    refine bodyPost_ret (v := .agg #[.int .i64 2, .int .i64 N, .string em]) (by simp [results, Tryz.results48, go_sem, *]) rfl ⟨⟨⟨2, N, em⟩, rfl, ok_int _ hN0 hN1⟩, ?_⟩
    exact HX5.out.fin HC.out hg (by omega) _ _ _
  case inr.inr.inr.inr.inr.inr.inr =>
    go_wp2_with fail
    refine (HID.out g x cap zs (a + 1) _ HX1.out.drew.2 (by rw [← HCD.out]; omega)).mono ?_
    rintro e w3 ⟨⟨v, rfl, hv, hk⟩, d3⟩
    rw [← HCD.out] at d3
    have HX3 : Hid _ := HX1.out.step hg d3
    obtain ⟨c0, c1, c2, f0, f1, f2⟩ := HX3.out.cells
    clear d3
    go_wp2_with fail
    refine bodyPost_ret (v := .agg #[.int .i64 v.k, .int .i64 v.n, .string v.t]) (by simp [results, Tryz.results48, go_sem, *]) rfl ⟨⟨v, rfl, hv⟩, ?_⟩
    exact HX3.out.fin HC.out hg (by omega) _ _ _
  case inr.inr.inr.inr.inr.inr.inl =>
    have HX3 : Hid _ := HX1.out.below HC.out hg ((Below.refl _ _).alloc (Nat.le_refl _) (.cells #[] 28))
    have O3 := World.ownsRow_made (base := w.heap.size + 1) (size := 3) (e := 28) w2 #[] 0 (by omega) (by unfold maxLen; omega) rfl
    go_wp2_with fail
    refine (next_any g x cap zs (a + 1) 4 _ HX3.out.drew.2 (by omega) (by omega) (by omega)).mono ?_
    rintro e w3 ⟨⟨z3, rfl, hz3⟩, d3⟩
    have HX4 : Hid _ := HX3.out.step hg d3
    have O4 := O3.kept d3.1 (own_ne O3 (by omega))
    have HO4 : Hid (World.ownsRow _ _ _ _ _ _ _) := O4
    clear d3 O3 O4 HX3 HX1
    go_wp2_with fail
    go_loopw [6, 7] (fun u i wr => ∃ (q : Nat) (l : List Val), i = .int .i64 q ∧ l.length + q ≤ 3 ∧ (∀ v ∈ l, okB v = true) ∧ wr.ownsRow (w.heap.size + 1) 28 3 u l.length (flat l) ∧ (¬ u = .slice none 0 0) ∧ DrawX w wr g x cap zs (a + 2 + l.length * C)) (fun _ i _ => (intOf i).toNat)
    case atStart => exact ⟨z3, [], rfl, by simp; omega, by simp, HO4.out, by simp, by simpa using HX4.out⟩
    case round =>
      obtain ⟨q, l, rfl, hq, hall, hown, hnn, X⟩ := hrel
      have HN : Hid _ := hnn
      have HA : Hid _ := hall
      have HX : Hid (DrawX _ _ _ _ _ _ _) := X
      have hlr := X.lt
      have HO : Hid (World.ownsRow _ _ _ _ _ _ _) := hown
      clear hnn hall X hown HO4 HX4
      by_cases hq0 : q = 0
      · subst hq0
        obtain ⟨g3, cap3, hv⟩ := owns_shape HO.out HN.out
        subst hv
        have HRV : Hid (ReadV _ _ _) := ReadV.of_own HO.out
        have hel := encL_len l HA.out
        have hsz : (txt (encL l)).size ≤ 1048576 := by rw [txt_size]; omega
        have hlc : l.length * C ≤ 3 * C := Nat.mul_le_mul_right _ (by omega)
        clear HO HN hel
        go_wp2_with fail
        refine (l01List_any g3 cap3 l _ HRV.out (by omega) HA.out).mono ?_
        rintro e w5 ⟨rfl, hb⟩
        have HX5 : Hid (DrawX _ _ _ _ _ _ _) := HX.out.below HC.out hg hb
        have hl5 := HX5.out.lt
        clear hb HRV HX
        cases hok : okB ⟨4, 0, txt (encL l)⟩
        · have HK : Hid _ := hok
          clear hok
          go_wp2_with fail
          refine (specValueOK_any 4 0 (txt (encL l)) _ hsz).mono ?_
          rintro e w6 ⟨rfl, hb⟩
          rw [HK.out]
          have hbw : Below w5.heap.size w5 w6 := Below.trans (by (repeat (first | (with_reducible exact Below.refl _ _) | (with_reducible assumption) | (with_reducible apply below_drewN) | (with_reducible apply Below.drew) | ((with_reducible refine Below.setCell ?_ ?_ _); rotate_left; focus (first | (simp; done) | (simp; omega) | omega)) | ((with_reducible refine Below.alloc ?_ ?_ _); rotate_left; focus (first | (simp; done) | (simp; omega) | omega))))) (hb.mono (by simp))
          have HX6 : Hid (DrawX _ _ _ _ _ _ _) := HX5.out.below HC.out hg hbw
          clear hb hbw
          go_wp2_with fail
          refine (l01Int_any 1 _).mono ?_
          rintro e w7 ⟨rfl, hb⟩
          have HX7 : Hid (DrawX _ _ _ _ _ _ _) := HX6.out.below HC.out hg hb
          obtain ⟨c0, c1, c2, f0, f1, f2⟩ := HX7.out.cells
          clear hb
          go_wp2_with fail
          refine bodyPost_ret (v := .agg #[.int .i64 2, .int .i64 1, .string em]) (by simp [results, Tryz.results48, go_sem, *]) rfl ⟨⟨⟨2, 1, em⟩, rfl, ok_int _ (by omega) (by omega)⟩, ?_⟩
          exact HX7.out.fin HC.out hg (by omega) _ _ _
        · have HK : Hid _ := hok
          clear hok
          go_wp2_with fail
          refine (specValueOK_any 4 0 (txt (encL l)) _ hsz).mono ?_
          rintro e w6 ⟨rfl, hb⟩
          rw [HK.out]
          have hbw : Below w5.heap.size w5 w6 := Below.trans (by (repeat (first | (with_reducible exact Below.refl _ _) | (with_reducible assumption) | (with_reducible apply below_drewN) | (with_reducible apply Below.drew) | ((with_reducible refine Below.setCell ?_ ?_ _); rotate_left; focus (first | (simp; done) | (simp; omega) | omega)) | ((with_reducible refine Below.alloc ?_ ?_ _); rotate_left; focus (first | (simp; done) | (simp; omega) | omega))))) (hb.mono (by simp))
          have HX6 : Hid (DrawX _ _ _ _ _ _ _) := HX5.out.below HC.out hg hbw
          have b0 : w6.cell? ⟨w5.heap.size, 0, none⟩ = some (.int .i64 4) := (hb.cell (p := ⟨w5.heap.size, 0, none⟩) (by simp)).trans (by simp [go_sem])
          have b1 : w6.cell? ⟨w5.heap.size, 1, none⟩ = some (.int .i64 0) := (hb.cell (p := ⟨w5.heap.size, 1, none⟩) (by simp)).trans (by simp [go_sem])
          have b2 : w6.cell? ⟨w5.heap.size, 2, none⟩ = some (.string (txt (encL l))) := (hb.cell (p := ⟨w5.heap.size, 2, none⟩) (by simp)).trans (by simp [go_sem])
          obtain ⟨c0, c1, c2, f0, f1, f2⟩ := HX6.out.cells
          have hz6 : w5.heap.size < w6.heap.size := by have := hb.size; simp at this; omega
          clear hb hbw
          go_wp2_with fail
          refine bodyPost_ret (v := .agg #[.int .i64 4, .int .i64 0, .string (txt (encL l))]) (by simp [results, Tryz.results48, go_sem, *]) rfl ⟨⟨⟨4, 0, (txt (encL l))⟩, rfl, HK.out⟩, ?_⟩
          exact HX6.out.fin HC.out hg (by omega) _ _ _
      · have hq1 : 0 < q := by omega
        have hlc : l.length * C ≤ 2 * C := Nat.mul_le_mul_right _ (by omega)
        clear hq0
        go_wp2_with fail
        refine (HI.out g x cap zs (a + 2 + l.length * C) _ HX.out.drew.2 (by rw [← HCD.out]; omega)).mono ?_
        rintro e w5 ⟨⟨v, rfl, hv⟩, d5⟩
        rw [← HCD.out] at d5
        have HX5 : Hid (DrawX _ _ _ _ _ _ _) := HX.out.step hg d5
        have O5 := HO.out.kept d5.1 (own_ne HO.out (by omega))
        have hl5 := HX5.out.lt
        have HV : Hid _ := hv
        clear d5 hv
        go_wp2_with (at_builtin; refine wpList_append_own _ rfl (.tmp 54) (.tmp 59) 153 rfl (w.heap.size + 1) 28 i0 (.agg #[.int .i64 0, .int .i64 0, .string em]) 3 32 Tryz.underlying153 hi0 hz0 hz1 hz2 rfl (by decide) _ _ _ rfl (O5.alloc _) ⟨w5.heap.size, 0, none⟩ 1 1 (row v) rfl rfl ?c1 ?c2 ?c3 ?c4 ?c5 ?_)
        case c1 =>
          intro j u hj
          match j, hj with
          | 0, hj => simp [row] at hj; subst hj; simp [Addr.add, go_sem]
          | 1, hj => simp [row] at hj; subst hj; simp [Addr.add, go_sem]
          | 2, hj => simp [row] at hj; subst hj; simp [Addr.add, go_sem]
          | j + 3, hj => simp [row] at hj
        case c2 => intro u hu; simp [row] at hu; rcases hu with rfl | rfl | rfl <;> rfl
        case c3 => unfold maxLen; omega
        case c4 => omega
        case c5 => simp; omega
        intro v' w6 hown6 hgrow hnv
        have HX6 : Hid (DrawX _ _ _ _ _ _ _) := (HX5.out.below HC.out hg ((Below.refl _ _).alloc (Nat.le_refl _) _)).grown HC.out hg hgrow (fun j hj => by have := (O5.lt j hj).1; omega)
        have HO6 : Hid (World.ownsRow _ _ _ _ _ _ _) := hown6
        have HN6 : Hid _ := hnv
        clear hown6 hgrow hnv O5
        go_wp2_with fail
        go_roundw
        case rel =>
          exact ⟨q - 1, l ++ [v], by go_num, by simp; omega, fun u hu => by rcases List.mem_append.mp hu with h | h; exact HA.out u h; (simp at h; subst h; exact HV.out), by rw [flat_snoc, List.length_append]; exact HO6.out, HN6.out, by have := HX6.out; rwa [show a + 2 + l.length * C + C = a + 2 + (l ++ [v]).length * C by rw [List.length_append, Nat.add_mul]; simp; omega] at this⟩
        case measure => simp [intOf]; omega

end Go.Proofs.YtkeghknceccdmaaGreatDoor
