/- The specification's drawn documents are right ones; of what lay there, the source alone has changed. -/
import Derived.Test.YtkeghknceccdmaaGreatDoorDrawW
import Derived.Test.YtkeghknceccdmaaGreatDoorDrawD
import Derived.Deep.RegionLaw
namespace Go.Proofs.YtkeghknceccdmaaGreatDoor
open Go.RowKit
set_option linter.unusedVariables false

theorem DrawX.mono {w W : World} {g : Nat} {x : Option Addr} {cap : Nat} {zs : List Int} {a b : Nat} (X : DrawX w W g x cap zs a) (h : a ≤ b) : DrawX w W g x cap zs b := ⟨⟨X.drew.1, X.drew.2.mono h⟩, X.blk⟩
/-- 'append(s, f)' of one field as one step of a region that draws. -/
theorem step_fld {ops : Array Oper} {o : Oper} {a : Act} {w : World} {K : Act → World → Prop} {Q : Exit → Act → World → Prop} {E : Prop} (hgd : o.guard = none) (s x : Operand)
    (ho : o.op = .call { callee := .builtin .append, args := #[s, x], argTypes := #[40, 40] }) (base n : Nat) (v : Value) (xs : List Value) (f : Fld) (ad : Nat)
    (hs : a.eval s = v) (hx : a.eval x = .slice (some ⟨ad, 0, none⟩) 1 1) (hc : w.cell? ⟨ad, 0, none⟩ = some (.string f.name) ∧ w.cell? ⟨ad, 1, none⟩ = some (.int .i64 f.v.k) ∧ w.cell? ⟨ad, 2, none⟩ = some (.int .i64 f.v.n) ∧ w.cell? ⟨ad, 3, none⟩ = some (.string f.v.t))
    (hown : w.ownsRow base 39 4 v n xs) (hn : n ≤ 1000000) (hbase : base ≤ w.heap.size)
    (hK : ∀ v' w', w'.ownsRow base 39 4 v' (n + 1) (xs ++ rowF f) → w.grownBy w' v.ownBlock → (¬ v' = .slice none 0 0) → K (a.put o.dst v') w') :
    if Region.wanted o (yielded ops a.tmps) = true then Oper.wp Tryz.prog o a w K Q else E := by
  have hw : Region.wanted o (yielded ops a.tmps) = true := by simp [Region.wanted, hgd]
  rw [if_pos hw]
  obtain ⟨i0, hi, hz0, hz1, hz2⟩ := info_parts infoF
  obtain ⟨v', w', hr, h2, h3, h4, h5⟩ := run_append_own_at (P := Tryz.prog) w base 40 o.type 39 i0 (.agg #[.string em, .int .i64 0, .int .i64 0, .string em]) 4 48 Tryz.underlying40 hi hz0 hz1 hz2 rfl (by decide) v n xs hown ⟨ad, 0, none⟩ 1 1 (rowF f) rfl (fun j u hj => by
    match j, hj with
    | 0, hj => simp [rowF] at hj; subst hj; rw [Addr.add_lit]; exact hc.1
    | 1, hj => simp [rowF] at hj; subst hj; rw [Addr.add_lit]; exact hc.2.1
    | 2, hj => simp [rowF] at hj; subst hj; rw [Addr.add_lit]; exact hc.2.2.1
    | 3, hj => simp [rowF] at hj; subst hj; rw [Addr.add_lit]; exact hc.2.2.2
    | j + 4, hj => simp [rowF] at hj) (by intro u hu; simp [rowF] at hu; rcases hu with rfl | rfl | rfl | rfl <;> rfl) (by unfold maxLen; omega) (by omega) hbase
  unfold Oper.wp execOp
  simp only [ho, resolve, invoke, builtin, Sem.run_bind, Sem.run_pure, Result.andThen_ok, List.map_toArray, List.map_cons, List.map_nil, hs, hx, hr]
  exact hK _ _ h2 h3 (fun e => by have := (h4.mp e).2; simp at this)
theorem cell_names0 (w : World) : (w.alloc (.cells #[.string ⟨#[97]⟩, .string ⟨#[98]⟩, .string ⟨#[99]⟩, .string ⟨#[116, 97, 103, 115]⟩] 9)).cell? ⟨w.heap.size, 0, none⟩ = some (.string ⟨#[97]⟩) := by simp [go_sem]
theorem cell_names1 (w : World) : (w.alloc (.cells #[.string ⟨#[97]⟩, .string ⟨#[98]⟩, .string ⟨#[99]⟩, .string ⟨#[116, 97, 103, 115]⟩] 9)).cell? ⟨w.heap.size, 1, none⟩ = some (.string ⟨#[98]⟩) := by simp [go_sem]
theorem cell_names2 (w : World) : (w.alloc (.cells #[.string ⟨#[97]⟩, .string ⟨#[98]⟩, .string ⟨#[99]⟩, .string ⟨#[116, 97, 103, 115]⟩] 9)).cell? ⟨w.heap.size, 2, none⟩ = some (.string ⟨#[99]⟩) := by simp [go_sem]
theorem cell_names3 (w : World) : (w.alloc (.cells #[.string ⟨#[97]⟩, .string ⟨#[98]⟩, .string ⟨#[99]⟩, .string ⟨#[116, 97, 103, 115]⟩] 9)).cell? ⟨w.heap.size, 3, none⟩ = some (.string ⟨#[116, 97, 103, 115]⟩) := by simp [go_sem]
theorem ok_docless : okB ⟨5, 0, txt (encFL [])⟩ = true := by
  have := doc_made [] (by simp) rfl (by simp)
  rw [show encFL [] = ([] : List Fld).flatMap encF from rfl, this]; rfl

set_option maxRecDepth 4000 in
set_option maxHeartbeats 4000000 in
theorem doc_at (d : Nat) (ih : ValAt d) : DocAt d := by
  intro g x cap zs a w h ha
  have hg := h.lt
  have HC : Hid (CodeAt _ _ _ _) := h.code
  have HI : Hid (ValAt _) := ih
  have hdc := costV_ge d
  obtain ⟨C, hC⟩ : ∃ C, C = costV d := ⟨_, rfl⟩
  rw [← hC] at ha hdc ⊢
  have HCD : Hid (_ = _) := hC
  have X0 := DrawX.start h
  have HX0 : Hid _ := X0.below HC.out hg ((Below.refl _ _).alloc (Nat.le_refl _) (.cells #[] 39))
  have O0 := World.ownsRow_made (base := w.heap.size + 1) (size := 4) (e := 39) (w.alloc (.cells #[.int .i64 0, .int .i64 0, .string em] 28)) #[] 0 (by simp) (by unfold maxLen; omega) rfl
  simp only [heap_size_alloc] at O0
  have HO0 : Hid (World.ownsRow _ _ _ _ _ _ _) := O0
  clear h ih hC X0 O0
  go_enter Tryz.func110, Tryz.ntmps110
  go_wp2_with fail
  go_loopw [5, 6] (fun u i wr => ∃ (k : Nat) (l : List Fld), k ≤ 4 ∧ i = .int .i64 k ∧ l.length ≤ k ∧ (∀ f ∈ l, okB f.v = true ∧ f.name.size < 256) ∧ wr.ownsRow (w.heap.size + 1) 39 4 u l.length (flatF l) ∧ (¬ u = .slice none 0 0) ∧ DrawX w wr g x cap zs (a + k * (1 + C))) (fun _ i _ => 4 - (intOf i).toNat)
  case atStart => exact ⟨0, [], by omega, rfl, by simp, by simp, HO0.out, by simp, by simpa using HX0.out⟩
  case round =>
    obtain ⟨k, l, hk, rfl, hlk, hall, hown, hnn, X⟩ := hrel
    have HN : Hid _ := hnn
    have HA : Hid _ := hall
    have HX : Hid (DrawX _ _ _ _ _ _ _) := X
    have hlr := X.lt
    have HO : Hid (World.ownsRow _ _ _ _ _ _ _) := hown
    clear hnn hall X hown HO0 HX0
    by_cases hk4 : k < 4
    · have hkc : k * (1 + C) ≤ 3 * (1 + C) := Nat.mul_le_mul_right _ (by omega)
      have hke : (k + 1) * (1 + C) = k * (1 + C) + (1 + C) := by rw [Nat.add_mul, Nat.one_mul]
      obtain ⟨A, hA⟩ : ∃ A, A = a + k * (1 + C) := ⟨_, rfl⟩
      have hA1 : a + (k + 1) * (1 + C) = A + (1 + C) := by omega
      have hA2 : A + (1 + C) ≤ 100000 := by omega
      rw [← hA] at HX
      have HA1 : Hid (_ = _) := hA1
      clear hkc hke hA hA1
      go_wp2_with fail
      refine (chance_any g x cap zs A 2 _ HX.out.drew.2 (by omega) (by omega) (by omega)).mono ?_
      rintro e w1 ⟨⟨b, rfl⟩, d1⟩
      have HX1 : Hid (DrawX _ _ _ _ _ _ _) := HX.out.step hg d1
      have O1 := HO.out.kept d1.1 (own_ne HO.out (by omega))
      have hl1 := HX1.out.lt
      have hg1 : g < w1.heap.size := by omega
      clear d1 HO HX
      cases b
      · have HO1 : Hid (World.ownsRow _ _ _ _ _ _ _) := O1
        clear O1
        go_wp2_with fail
        go_roundw
        case rel => exact ⟨k + 1, l, by omega, by go_num, by omega, HA.out, HO1.out, HN.out, by rw [HA1.out]; exact HX1.out.mono (by omega)⟩
        case measure => simp [intOf]; omega
      · have HO1 : Hid (World.ownsRow _ _ _ _ _ _ _) := O1
        clear O1
        have HLK : Hid (_ ≤ _) := hlk
        rcases (show k = 0 ∨ k = 1 ∨ k = 2 ∨ k = 3 by omega) with rfl | rfl | rfl | rfl
        · go_wp2_with fail
          go_region_law (first
            | (refine step_fld rfl (.tmp 15) (.tmp 24) rfl (w.heap.size + 1) l.length u5 (flatF l) ⟨⟨#[97]⟩, v⟩ w2.heap.size (by simp [Act.eval]) (by simp [Act.eval]) (by simp [go_sem]) (HO2.out.alloc _) (by have := HLK.out; omega) (by simp; omega) ?_; intro v' w3 hown3 hgrow hnv)
            | (refine step_fld rfl (.tmp 15) (.tmp 24) rfl (w.heap.size + 1) l.length u5 (flatF l) ⟨⟨#[97]⟩, v⟩ (w2.heap.size + 1) (by simp [Act.eval]) (by simp [Act.eval]) (by simp [go_sem]) ((HO2.out.alloc _).alloc _) (by have := HLK.out; omega) (by simp; omega) ?_; intro v' w3 hown3 hgrow hnv)
            | (go_simp; go_wp2_with (go_at_call 48; refine (HI.out g x cap zs (A + 1) _ (HX1.out.below HC.out hg (by (repeat (first | (with_reducible exact Below.refl _ _) | (with_reducible assumption) | (with_reducible apply below_drewN) | (with_reducible apply Below.drew) | ((with_reducible refine Below.setCell ?_ ?_ _); rotate_left; focus (first | (simp; done) | (simp; omega) | omega)) | ((with_reducible refine Below.alloc ?_ ?_ _); rotate_left; focus (first | (simp; done) | (simp; omega) | omega)))))).drew.2 (by rw [← HCD.out]; omega)).mono ?_; rintro e w2 ⟨⟨v, rfl, hv⟩, d2⟩; rw [← HCD.out] at d2; have HX2 : Hid (DrawX w w2 g x cap zs (A + 1 + C)) := DrawX.step (HX1.out.below HC.out hg (by (repeat (first | (with_reducible exact Below.refl _ _) | (with_reducible assumption) | (with_reducible apply below_drewN) | (with_reducible apply Below.drew) | ((with_reducible refine Below.setCell ?_ ?_ _); rotate_left; focus (first | (simp; done) | (simp; omega) | omega)) | ((with_reducible refine Below.alloc ?_ ?_ _); rotate_left; focus (first | (simp; done) | (simp; omega) | omega)))))) hg d2; have O2 : w2.ownsRow (w.heap.size + 1) 39 4 u5 l.length (flatF l) := World.ownsRow.kept (by first | exact HO1.out | exact HO1.out.alloc _) d2.1 (own_ne HO1.out (by omega)); have HO2 : Hid (World.ownsRow _ _ _ _ _ _ _) := O2; have HV : Hid _ := hv; have hl2 := HX2.out.lt; (try have y0 := d2.1.cell (cell_names0 _) (fun e => absurd (Option.some.inj e) (Nat.ne_of_gt hg1))); clear O2 d2 hv)))
          all_goals
            have HX3 : Hid (DrawX _ _ _ _ _ _ _) := (HX2.out.below HC.out hg (by (repeat (first | (with_reducible exact Below.refl _ _) | (with_reducible assumption) | (with_reducible apply below_drewN) | (with_reducible apply Below.drew) | ((with_reducible refine Below.setCell ?_ ?_ _); rotate_left; focus (first | (simp; done) | (simp; omega) | omega)) | ((with_reducible refine Below.alloc ?_ ?_ _); rotate_left; focus (first | (simp; done) | (simp; omega) | omega)))))).grown HC.out hg hgrow (fun j hj => by have := (HO2.out.lt j hj).1; omega)
            have HO3 : Hid (World.ownsRow _ _ _ _ _ _ _) := hown3
            have HNV : Hid _ := hnv
            clear hown3 hgrow hnv
            go_wp2_with fail
            go_roundw
            case rel => exact ⟨0 + 1, l ++ [⟨⟨#[97]⟩, v⟩], by omega, by go_num, by rw [List.length_append]; have := HLK.out; show l.length + 1 ≤ _; omega, fun f hf => by rcases List.mem_append.mp hf with h | h; exact HA.out f h; (simp at h; subst h; exact ⟨HV.out, by show (⟨#[97]⟩ : ByteArray).size < 256; decide⟩), by rw [flatF_snoc, List.length_append]; exact HO3.out, HNV.out, by rw [HA1.out]; exact HX3.out.mono (by omega)⟩
            case measure => simp [intOf]
        · go_wp2_with fail
          go_region_law (first
            | (refine step_fld rfl (.tmp 15) (.tmp 24) rfl (w.heap.size + 1) l.length u5 (flatF l) ⟨⟨#[98]⟩, v⟩ w2.heap.size (by simp [Act.eval]) (by simp [Act.eval]) (by simp [go_sem]) (HO2.out.alloc _) (by have := HLK.out; omega) (by simp; omega) ?_; intro v' w3 hown3 hgrow hnv)
            | (refine step_fld rfl (.tmp 15) (.tmp 24) rfl (w.heap.size + 1) l.length u5 (flatF l) ⟨⟨#[98]⟩, v⟩ (w2.heap.size + 1) (by simp [Act.eval]) (by simp [Act.eval]) (by simp [go_sem]) ((HO2.out.alloc _).alloc _) (by have := HLK.out; omega) (by simp; omega) ?_; intro v' w3 hown3 hgrow hnv)
            | (go_simp; go_wp2_with (go_at_call 48; refine (HI.out g x cap zs (A + 1) _ (HX1.out.below HC.out hg (by (repeat (first | (with_reducible exact Below.refl _ _) | (with_reducible assumption) | (with_reducible apply below_drewN) | (with_reducible apply Below.drew) | ((with_reducible refine Below.setCell ?_ ?_ _); rotate_left; focus (first | (simp; done) | (simp; omega) | omega)) | ((with_reducible refine Below.alloc ?_ ?_ _); rotate_left; focus (first | (simp; done) | (simp; omega) | omega)))))).drew.2 (by rw [← HCD.out]; omega)).mono ?_; rintro e w2 ⟨⟨v, rfl, hv⟩, d2⟩; rw [← HCD.out] at d2; have HX2 : Hid (DrawX w w2 g x cap zs (A + 1 + C)) := DrawX.step (HX1.out.below HC.out hg (by (repeat (first | (with_reducible exact Below.refl _ _) | (with_reducible assumption) | (with_reducible apply below_drewN) | (with_reducible apply Below.drew) | ((with_reducible refine Below.setCell ?_ ?_ _); rotate_left; focus (first | (simp; done) | (simp; omega) | omega)) | ((with_reducible refine Below.alloc ?_ ?_ _); rotate_left; focus (first | (simp; done) | (simp; omega) | omega)))))) hg d2; have O2 : w2.ownsRow (w.heap.size + 1) 39 4 u5 l.length (flatF l) := World.ownsRow.kept (by first | exact HO1.out | exact HO1.out.alloc _) d2.1 (own_ne HO1.out (by omega)); have HO2 : Hid (World.ownsRow _ _ _ _ _ _ _) := O2; have HV : Hid _ := hv; have hl2 := HX2.out.lt; (try have y0 := d2.1.cell (cell_names1 _) (fun e => absurd (Option.some.inj e) (Nat.ne_of_gt hg1))); clear O2 d2 hv)))
          all_goals
            have HX3 : Hid (DrawX _ _ _ _ _ _ _) := (HX2.out.below HC.out hg (by (repeat (first | (with_reducible exact Below.refl _ _) | (with_reducible assumption) | (with_reducible apply below_drewN) | (with_reducible apply Below.drew) | ((with_reducible refine Below.setCell ?_ ?_ _); rotate_left; focus (first | (simp; done) | (simp; omega) | omega)) | ((with_reducible refine Below.alloc ?_ ?_ _); rotate_left; focus (first | (simp; done) | (simp; omega) | omega)))))).grown HC.out hg hgrow (fun j hj => by have := (HO2.out.lt j hj).1; omega)
            have HO3 : Hid (World.ownsRow _ _ _ _ _ _ _) := hown3
            have HNV : Hid _ := hnv
            clear hown3 hgrow hnv
            go_wp2_with fail
            go_roundw
            case rel => exact ⟨1 + 1, l ++ [⟨⟨#[98]⟩, v⟩], by omega, by go_num, by rw [List.length_append]; have := HLK.out; show l.length + 1 ≤ _; omega, fun f hf => by rcases List.mem_append.mp hf with h | h; exact HA.out f h; (simp at h; subst h; exact ⟨HV.out, by show (⟨#[98]⟩ : ByteArray).size < 256; decide⟩), by rw [flatF_snoc, List.length_append]; exact HO3.out, HNV.out, by rw [HA1.out]; exact HX3.out.mono (by omega)⟩
            case measure => simp [intOf]
        · go_wp2_with fail
          go_region_law (first
            | (refine step_fld rfl (.tmp 15) (.tmp 24) rfl (w.heap.size + 1) l.length u5 (flatF l) ⟨⟨#[99]⟩, v⟩ w2.heap.size (by simp [Act.eval]) (by simp [Act.eval]) (by simp [go_sem]) (HO2.out.alloc _) (by have := HLK.out; omega) (by simp; omega) ?_; intro v' w3 hown3 hgrow hnv)
            | (refine step_fld rfl (.tmp 15) (.tmp 24) rfl (w.heap.size + 1) l.length u5 (flatF l) ⟨⟨#[99]⟩, v⟩ (w2.heap.size + 1) (by simp [Act.eval]) (by simp [Act.eval]) (by simp [go_sem]) ((HO2.out.alloc _).alloc _) (by have := HLK.out; omega) (by simp; omega) ?_; intro v' w3 hown3 hgrow hnv)
            | (go_simp; go_wp2_with (go_at_call 48; refine (HI.out g x cap zs (A + 1) _ (HX1.out.below HC.out hg (by (repeat (first | (with_reducible exact Below.refl _ _) | (with_reducible assumption) | (with_reducible apply below_drewN) | (with_reducible apply Below.drew) | ((with_reducible refine Below.setCell ?_ ?_ _); rotate_left; focus (first | (simp; done) | (simp; omega) | omega)) | ((with_reducible refine Below.alloc ?_ ?_ _); rotate_left; focus (first | (simp; done) | (simp; omega) | omega)))))).drew.2 (by rw [← HCD.out]; omega)).mono ?_; rintro e w2 ⟨⟨v, rfl, hv⟩, d2⟩; rw [← HCD.out] at d2; have HX2 : Hid (DrawX w w2 g x cap zs (A + 1 + C)) := DrawX.step (HX1.out.below HC.out hg (by (repeat (first | (with_reducible exact Below.refl _ _) | (with_reducible assumption) | (with_reducible apply below_drewN) | (with_reducible apply Below.drew) | ((with_reducible refine Below.setCell ?_ ?_ _); rotate_left; focus (first | (simp; done) | (simp; omega) | omega)) | ((with_reducible refine Below.alloc ?_ ?_ _); rotate_left; focus (first | (simp; done) | (simp; omega) | omega)))))) hg d2; have O2 : w2.ownsRow (w.heap.size + 1) 39 4 u5 l.length (flatF l) := World.ownsRow.kept (by first | exact HO1.out | exact HO1.out.alloc _) d2.1 (own_ne HO1.out (by omega)); have HO2 : Hid (World.ownsRow _ _ _ _ _ _ _) := O2; have HV : Hid _ := hv; have hl2 := HX2.out.lt; (try have y0 := d2.1.cell (cell_names2 _) (fun e => absurd (Option.some.inj e) (Nat.ne_of_gt hg1))); clear O2 d2 hv)))
          all_goals
            have HX3 : Hid (DrawX _ _ _ _ _ _ _) := (HX2.out.below HC.out hg (by (repeat (first | (with_reducible exact Below.refl _ _) | (with_reducible assumption) | (with_reducible apply below_drewN) | (with_reducible apply Below.drew) | ((with_reducible refine Below.setCell ?_ ?_ _); rotate_left; focus (first | (simp; done) | (simp; omega) | omega)) | ((with_reducible refine Below.alloc ?_ ?_ _); rotate_left; focus (first | (simp; done) | (simp; omega) | omega)))))).grown HC.out hg hgrow (fun j hj => by have := (HO2.out.lt j hj).1; omega)
            have HO3 : Hid (World.ownsRow _ _ _ _ _ _ _) := hown3
            have HNV : Hid _ := hnv
            clear hown3 hgrow hnv
            go_wp2_with fail
            go_roundw
            case rel => exact ⟨2 + 1, l ++ [⟨⟨#[99]⟩, v⟩], by omega, by go_num, by rw [List.length_append]; have := HLK.out; show l.length + 1 ≤ _; omega, fun f hf => by rcases List.mem_append.mp hf with h | h; exact HA.out f h; (simp at h; subst h; exact ⟨HV.out, by show (⟨#[99]⟩ : ByteArray).size < 256; decide⟩), by rw [flatF_snoc, List.length_append]; exact HO3.out, HNV.out, by rw [HA1.out]; exact HX3.out.mono (by omega)⟩
            case measure => simp [intOf]
        · go_wp2_with fail
          go_region_law (first
            | (refine step_fld rfl (.tmp 15) (.tmp 24) rfl (w.heap.size + 1) l.length u5 (flatF l) ⟨⟨#[116, 97, 103, 115]⟩, v⟩ w2.heap.size (by simp [Act.eval]) (by simp [Act.eval]) (by simp [go_sem]) (HO2.out.alloc _) (by have := HLK.out; omega) (by simp; omega) ?_; intro v' w3 hown3 hgrow hnv)
            | (refine step_fld rfl (.tmp 15) (.tmp 24) rfl (w.heap.size + 1) l.length u5 (flatF l) ⟨⟨#[116, 97, 103, 115]⟩, v⟩ (w2.heap.size + 1) (by simp [Act.eval]) (by simp [Act.eval]) (by simp [go_sem]) ((HO2.out.alloc _).alloc _) (by have := HLK.out; omega) (by simp; omega) ?_; intro v' w3 hown3 hgrow hnv)
            | (go_simp; go_wp2_with (go_at_call 48; refine (HI.out g x cap zs (A + 1) _ (HX1.out.below HC.out hg (by (repeat (first | (with_reducible exact Below.refl _ _) | (with_reducible assumption) | (with_reducible apply below_drewN) | (with_reducible apply Below.drew) | ((with_reducible refine Below.setCell ?_ ?_ _); rotate_left; focus (first | (simp; done) | (simp; omega) | omega)) | ((with_reducible refine Below.alloc ?_ ?_ _); rotate_left; focus (first | (simp; done) | (simp; omega) | omega)))))).drew.2 (by rw [← HCD.out]; omega)).mono ?_; rintro e w2 ⟨⟨v, rfl, hv⟩, d2⟩; rw [← HCD.out] at d2; have HX2 : Hid (DrawX w w2 g x cap zs (A + 1 + C)) := DrawX.step (HX1.out.below HC.out hg (by (repeat (first | (with_reducible exact Below.refl _ _) | (with_reducible assumption) | (with_reducible apply below_drewN) | (with_reducible apply Below.drew) | ((with_reducible refine Below.setCell ?_ ?_ _); rotate_left; focus (first | (simp; done) | (simp; omega) | omega)) | ((with_reducible refine Below.alloc ?_ ?_ _); rotate_left; focus (first | (simp; done) | (simp; omega) | omega)))))) hg d2; have O2 : w2.ownsRow (w.heap.size + 1) 39 4 u5 l.length (flatF l) := World.ownsRow.kept (by first | exact HO1.out | exact HO1.out.alloc _) d2.1 (own_ne HO1.out (by omega)); have HO2 : Hid (World.ownsRow _ _ _ _ _ _ _) := O2; have HV : Hid _ := hv; have hl2 := HX2.out.lt; (try have y0 := d2.1.cell (cell_names3 _) (fun e => absurd (Option.some.inj e) (Nat.ne_of_gt hg1))); clear O2 d2 hv)))
          all_goals
            have HX3 : Hid (DrawX _ _ _ _ _ _ _) := (HX2.out.below HC.out hg (by (repeat (first | (with_reducible exact Below.refl _ _) | (with_reducible assumption) | (with_reducible apply below_drewN) | (with_reducible apply Below.drew) | ((with_reducible refine Below.setCell ?_ ?_ _); rotate_left; focus (first | (simp; done) | (simp; omega) | omega)) | ((with_reducible refine Below.alloc ?_ ?_ _); rotate_left; focus (first | (simp; done) | (simp; omega) | omega)))))).grown HC.out hg hgrow (fun j hj => by have := (HO2.out.lt j hj).1; omega)
            have HO3 : Hid (World.ownsRow _ _ _ _ _ _ _) := hown3
            have HNV : Hid _ := hnv
            clear hown3 hgrow hnv
            go_wp2_with fail
            go_roundw
            case rel => exact ⟨3 + 1, l ++ [⟨⟨#[116, 97, 103, 115]⟩, v⟩], by omega, by go_num, by rw [List.length_append]; have := HLK.out; show l.length + 1 ≤ _; omega, fun f hf => by rcases List.mem_append.mp hf with h | h; exact HA.out f h; (simp at h; subst h; exact ⟨HV.out, by show (⟨#[116, 97, 103, 115]⟩ : ByteArray).size < 256; decide⟩), by rw [flatF_snoc, List.length_append]; exact HO3.out, HNV.out, by rw [HA1.out]; exact HX3.out.mono (by omega)⟩
            case measure => simp [intOf]
    · obtain rfl : k = 4 := by omega
      obtain ⟨g3, cap3, hv⟩ := owns_shape HO.out HN.out
      subst hv
      have HRF : Hid (ReadF _ _ _) := ReadF.of_own HO.out
      have hel := encFL_len l HA.out
      have hsz : (txt (encFL l)).size ≤ 1048576 := by rw [txt_size]; omega
      clear HO HN hel
      go_wp2_with fail
      refine (l01Doc_any g3 cap3 l _ HRF.out (by omega) HA.out).mono ?_
      rintro e w5 ⟨rfl, hb⟩
      have HX5 : Hid (DrawX _ _ _ _ _ _ _) := HX.out.below HC.out hg hb
      have hl5 := HX5.out.lt
      clear hb HRF HX
      cases hok : okB ⟨5, 0, txt (encFL l)⟩
      · have HK : Hid _ := hok
        clear hok
        go_wp2_with fail
        refine (specValueOK_any 5 0 (txt (encFL l)) _ hsz).mono ?_
        rintro e w6 ⟨rfl, hb⟩
        rw [HK.out]
        have hbw : Below w5.heap.size w5 w6 := Below.trans (by (repeat (first | (with_reducible exact Below.refl _ _) | (with_reducible assumption) | (with_reducible apply below_drewN) | (with_reducible apply Below.drew) | ((with_reducible refine Below.setCell ?_ ?_ _); rotate_left; focus (first | (simp; done) | (simp; omega) | omega)) | ((with_reducible refine Below.alloc ?_ ?_ _); rotate_left; focus (first | (simp; done) | (simp; omega) | omega))))) (hb.mono (by simp))
        have HX6 : Hid (DrawX _ _ _ _ _ _ _) := HX5.out.below HC.out hg hbw
        clear hb hbw
        go_wp2_with fail
        refine (l01Doc_any w6.heap.size 0 [] _ ⟨by simp, fun i h => by simp at h⟩ (by simp) (by simp)).mono ?_
        rintro e w7 ⟨rfl, hb⟩
        have hbw : Below w6.heap.size w6 w7 := Below.trans (by (repeat (first | (with_reducible exact Below.refl _ _) | (with_reducible assumption) | (with_reducible apply below_drewN) | (with_reducible apply Below.drew) | ((with_reducible refine Below.setCell ?_ ?_ _); rotate_left; focus (first | (simp; done) | (simp; omega) | omega)) | ((with_reducible refine Below.alloc ?_ ?_ _); rotate_left; focus (first | (simp; done) | (simp; omega) | omega))))) (hb.mono (by simp))
        have HX7 : Hid (DrawX _ _ _ _ _ _ _) := HX6.out.below HC.out hg hbw
        obtain ⟨c0, c1, c2, f0, f1, f2⟩ := HX7.out.cells
        clear hb hbw
        go_wp2_with fail
        refine bodyPost_ret (v := .agg #[.int .i64 5, .int .i64 0, .string (txt (encFL []))]) (by simp [results, Tryz.results110, go_sem, *]) rfl ⟨⟨⟨5, 0, (txt (encFL []))⟩, rfl, ok_docless, rfl⟩, ?_⟩
        exact HX7.out.fin HC.out hg (by omega) _ _ _
      · have HK : Hid _ := hok
        clear hok
        go_wp2_with fail
        refine (specValueOK_any 5 0 (txt (encFL l)) _ hsz).mono ?_
        rintro e w6 ⟨rfl, hb⟩
        rw [HK.out]
        have hbw : Below w5.heap.size w5 w6 := Below.trans (by (repeat (first | (with_reducible exact Below.refl _ _) | (with_reducible assumption) | (with_reducible apply below_drewN) | (with_reducible apply Below.drew) | ((with_reducible refine Below.setCell ?_ ?_ _); rotate_left; focus (first | (simp; done) | (simp; omega) | omega)) | ((with_reducible refine Below.alloc ?_ ?_ _); rotate_left; focus (first | (simp; done) | (simp; omega) | omega))))) (hb.mono (by simp))
        have HX6 : Hid (DrawX _ _ _ _ _ _ _) := HX5.out.below HC.out hg hbw
        have b0 : w6.cell? ⟨w5.heap.size, 0, none⟩ = some (.int .i64 5) := (hb.cell (p := ⟨w5.heap.size, 0, none⟩) (by simp)).trans (by simp [go_sem])
        have b1 : w6.cell? ⟨w5.heap.size, 1, none⟩ = some (.int .i64 0) := (hb.cell (p := ⟨w5.heap.size, 1, none⟩) (by simp)).trans (by simp [go_sem])
        have b2 : w6.cell? ⟨w5.heap.size, 2, none⟩ = some (.string (txt (encFL l))) := (hb.cell (p := ⟨w5.heap.size, 2, none⟩) (by simp)).trans (by simp [go_sem])
        obtain ⟨c0, c1, c2, f0, f1, f2⟩ := HX6.out.cells
        have hz6 : w5.heap.size < w6.heap.size := by have := hb.size; simp at this; omega
        clear hb hbw
        go_wp2_with fail
        refine bodyPost_ret (v := .agg #[.int .i64 5, .int .i64 0, .string (txt (encFL l))]) (by simp [results, Tryz.results110, go_sem, *]) rfl ⟨⟨⟨5, 0, (txt (encFL l))⟩, rfl, HK.out, rfl⟩, ?_⟩
        exact HX6.out.fin HC.out hg (by omega) _ _ _

theorem val_at : ∀ d, ValAt d
  | 0 => val_zero
  | d + 1 => val_succ d (val_at d) (doc_at d (val_at d))

end Go.Proofs.YtkeghknceccdmaaGreatDoor
