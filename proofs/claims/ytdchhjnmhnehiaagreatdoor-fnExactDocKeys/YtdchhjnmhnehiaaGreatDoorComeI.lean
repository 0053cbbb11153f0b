/- What the program's way along a path answers, for every right value and all names: the value itself with its items, and what a document's field comes to. -/
import Derived.Test.YtdchhjnmhnehiaaGreatDoorGetU
import Derived.Test.YtdchhjnmhnehiaaGreatDoorFindW
import Derived.Laws.AppendOwnNone
import Derived.Deep.RegionWith
namespace Go.Proofs.YtdchhjnmhnehiaaGreatDoor
open Go.RowKit
set_option linter.unusedVariables false

/-- A row of values is answered, nil only where it has none. -/
def RowO (l : List Val) (w' : World) (e : Ending) : Prop := (e = .returned (.slice none 0 0) ∧ l = []) ∨ ∃ g cap, e = .returned (.slice (some ⟨g, 0, none⟩) l.length cap) ∧ ReadV w' g l
theorem RowO.nil {l : List Val} {w' : World} {e : Ending} (h : e = .returned (.slice none 0 0)) (hl : l = []) : RowO l w' e := .inl ⟨h, hl⟩
theorem RowO.mk {l : List Val} {w' : World} {e : Ending} (g cap : Nat) (h : e = .returned (.slice (some ⟨g, 0, none⟩) l.length cap)) (hr : ReadV w' g l) : RowO l w' e := .inr ⟨g, cap, h, hr⟩
theorem RowO.row {l : List Val} {w' : World} {e : Ending} (h : RowO l w' e) : ∃ p cap, e = .returned (.slice p l.length cap) ∧ RowV w' p l := by
  rcases h with ⟨he, hl⟩ | ⟨g, cap, he, hr⟩
  · subst hl; exact ⟨none, 0, he, .inl rfl⟩
  · exact ⟨_, cap, he, .inr ⟨g, rfl, hr⟩⟩

set_option maxRecDepth 4000 in
set_option maxHeartbeats 2000000 in
theorem withItems_any (d : Nat) (v : Val) (w : World) (hf : fits d v = true) (hs : v.t.size ≤ 300) :
    Calls Tryz.prog 120 #[.agg #[.int .i64 v.k, .int .i64 v.n, .string v.t]] w fun e w' => RowO (getP [] v) w' e ∧ Below w.heap.size w w' := by
  obtain ⟨i0, hi0, hz0, hz1, hz2⟩ := info_parts infoV
  rw [getP_end]
  have X0 := Boxed.start w (.int .i64 v.k) (.int .i64 v.n) (.string v.t) 38
  have X1 := X0.step ((Below.refl _ _).alloc (Nat.le_refl _) (.cells #[.int .i64 v.k, .int .i64 v.n, .string v.t] 38))
  have O1 := owns_one (w.alloc (.cells #[.int .i64 v.k, .int .i64 v.n, .string v.t] 38)) v (base := w.heap.size) (by simp)
  by_cases h4 : v.k = 4
  · rw [if_pos h4]
    obtain ⟨hs1, hi, hl, _⟩ := list_parts d v hf h4
    have HI : Hid _ := hi
    obtain ⟨L, hL⟩ : ∃ L, L = itms v := ⟨_, rfl⟩
    rw [← hL] at HI hl ⊢
    have e4 : (v.k == 4) = true := by simp [h4]
    clear hi hL hf h4 X0
    by_cases hL0 : L = []
    · subst hL0
      go_enter Tryz.func120, Tryz.ntmps120
      go_wp2_with fail
      refine (itemsIn_nil v.t _ (by omega) HI.out).mono ?_
      rintro e w1 ⟨rfl, hb⟩
      have O2 := owns_below O1 hb
      have X2 := X1.step hb
      have hbw := X2.bel
      simp only [heap_size_alloc] at O2
      clear hb X1 X2 O1
      have R := ReadV.of_own (l := [v]) O2
      have HR : Hid _ := R
      clear R
      go_wp2_with (at_builtin; refine wpList_append_own_none rfl (.tmp 9) (.tmp 12) 107 rfl w.heap.size 38 i0 3 Tryz.underlying107 hi0 _ _ _ rfl O2 rfl ?_)
      go_wp2_with fail
      go_ret
      exact ⟨RowO.mk _ 1 rfl HR.out, hbw⟩
    · go_enter Tryz.func120, Tryz.ntmps120
      go_wp2_with fail
      refine (itemsIn_cons v.t L _ (by omega) HI.out hL0).mono ?_
      rintro e w1 ⟨⟨g1, cap1, rfl, hown1⟩, hb⟩
      have O2 := owns_below O1 hb
      have X2 := X1.step hb
      have hbw := X2.bel
      have hz := hbw.size
      simp only [heap_size_alloc] at O2
      clear hb X1 X2 O1 hL0
      go_wp2_with (at_builtin; refine wpList_append_own _ rfl (.tmp 9) (.tmp 12) 107 rfl w.heap.size 38 i0 (.agg #[.int .i64 0, .int .i64 0, .string em]) 3 32 Tryz.underlying107 hi0 hz0 hz1 hz2 rfl (by decide) _ _ _ rfl O2 ⟨g1, 0, none⟩ L.length cap1 (flat L) rfl (flat_len L) (hown1.cells rfl) (flat_one L) ?c3 ?c4 hz ?_)
      case c3 => unfold maxLen; omega
      case c4 => omega
      intro v' w2 hown2 hgrow hnv
      have hnn : ¬ v' = .slice none 0 0 := hnv
      have hb2 : Below w.heap.size w w2 := Below.grown hbw hgrow hz (owns_block O2)
      rw [← flat_app, show 1 + L.length = (v :: L).length by simp; omega] at hown2
      obtain ⟨g3, cap3, hv⟩ := owns_shape hown2 hnn
      subst hv
      have R := ReadV.of_own hown2
      have HR : Hid _ := R
      clear hown2 hgrow hnv hown1 O2 R hbw hz hnn
      go_wp2_with fail
      go_ret
      exact ⟨RowO.mk g3 cap3 rfl HR.out, hb2⟩
  · rw [if_neg h4]
    have e4 : (v.k == 4) = false := beq_eq_false_iff_ne.mpr h4
    have R := ReadV.of_own (l := [v]) O1
    simp only [heap_size_alloc] at R
    have HR : Hid _ := R
    have hbw := X1.bel
    clear R O1 X0 hf h4 X1
    go_enter Tryz.func120, Tryz.ntmps120
    go_wp2_with fail
    go_ret
    exact ⟨RowO.mk _ 1 rfl HR.out, hbw⟩

def ComeAt (ws : List ByteArray) : Prop := ∀ (d : Nat) (v : Val) (g off cap : Nat) (w : World), fits d v = true → v.t.size ≤ 300 → ws.length ≤ cap → ReadS w g off ws →
    Calls Tryz.prog 96 #[.agg #[.int .i64 v.k, .int .i64 v.n, .string v.t], .slice (some ⟨g, off, none⟩) ws.length cap] w fun e w' => RowO (getP ws v) w' e ∧ Below w.heap.size w w'

set_option maxRecDepth 4000 in
set_option maxHeartbeats 1000000 in
theorem come_end : ComeAt [] := by
  intro d v g off cap w hf hs hcap hr
  have X0 := Boxed.start w (.int .i64 v.k) (.int .i64 v.n) (.string v.t) 38
  have HC : Hid (∀ W : World, Calls _ _ _ W _) := fun W => withItems_any d v W hf hs
  clear hf hr
  go_enter Tryz.func96, Tryz.ntmps96
  go_wp2_with fail
  refine (HC.out _).mono ?_
  rintro e w1 ⟨hO, hb⟩
  have HB : Hid _ := (X0.step hb).bel
  have HO : Hid (RowO _ _ _) := hO
  obtain ⟨p, c, rfl, _⟩ := hO.row
  clear hb hO
  go_wp2_with fail
  go_ret
  exact ⟨HO.out, HB.out⟩

set_option maxRecDepth 4000 in
set_option maxHeartbeats 2000000 in
theorem field_come (nm : ByteArray) (ws : List ByteArray) (ih : ComeAt ws) (d : Nat) (v : Val) (g off cap : Nat) (w : World) (h5 : v.k = 5) (hf : fits d v = true) (hr : ReadS w g off (nm :: ws)) (hws : ws.length ≤ 1000) (hcap : ws.length + 1 ≤ cap) :
    Calls Tryz.prog 121 #[.agg #[.int .i64 v.k, .int .i64 v.n, .string v.t], .slice (some ⟨g, off, none⟩) (ws.length + 1) cap] w fun e w' => RowO (docP (getP ws) nm v) w' e ∧ Below w.heap.size w w' := by
  obtain ⟨hs, hfi, hl, hrise, d', rfl, hall, _⟩ := doc_parts d v hf h5
  obtain ⟨D, hD⟩ : ∃ D, D = docP (getP ws) nm v := ⟨_, rfl⟩
  rw [← hD]
  have HDN : Hid (fieldV nm (flds v) = none → D = []) := fun h => by rw [hD, docP_none _ _ _ h]
  have HDS : Hid (∀ x, fieldV nm (flds v) = some x → D = getP ws x) := fun x h => by rw [hD, docP_some _ _ _ x h]
  obtain ⟨L, hL⟩ : ∃ L, L = flds v := ⟨_, rfl⟩
  rw [← hL] at hfi hall hl hrise HDN HDS
  have HA : Hid _ := hall
  have HF : Hid _ := hfi
  have HS : Hid (Rise _) := hrise
  have HI : Hid (ComeAt _) := ih
  have HR : Hid (ReadS _ _ _ _) := hr
  have HT : Hid _ := tailS hr cap hcap
  have hgl := hr.lt
  have X0 := Boxed.start w (.int .i64 v.k) (.int .i64 v.n) (.string v.t) 38
  clear hD hL hall hfi hrise ih hr hf h5
  go_enter Tryz.func121, Tryz.ntmps121
  go_wp2_with fail
  refine (fieldsIn_row v.t L _ (by omega) HF.out).mono ?_
  rintro e w1 ⟨⟨p, fcap, rfl, R1⟩, hb⟩
  have hbw := (X0.step hb).bel
  have n0 := (HR.out.next hbw).cells 0 (by simp)
  rw [Nat.add_zero] at n0
  have n1 : w1.cell? ⟨g, off, none⟩ = some (.string nm) := n0
  have hpos : (0 : Int) < (ws.length : Int) + 1 := by omega
  have HR1 : Hid (RowF _ _ _) := R1
  clear hb n0 R1 X0
  go_wp2_with fail
  refine (fieldPlace_any p fcap L nm _ HR1.out HS.out (by omega)).mono ?_
  rintro e w2 ⟨⟨i, b, rfl, hp⟩, hb⟩
  have hbw2 : Below w.heap.size w w2 := hbw.trans (hb.mono hbw.size)
  have R2 := HR1.out.next hb
  have hz2 := hbw2.size
  have HP : Hid (Place _ _ _ _) := hp
  clear hb hp HR1 n1
  cases b
  · have hDe := HDN.out (Place.none HS.out HP.out)
    clear HP HDN HDS
    go_wp2_with fail
    go_ret
    exact ⟨RowO.nil rfl hDe, hbw2⟩
  · obtain ⟨hi, hname, hfv⟩ := HP.out.some
    rcases R2 with h0 | ⟨gf, rfl, RF⟩
    · subst h0; simp at hi
    have hDe := HDS.out _ hfv
    obtain ⟨x0, x1, x2, x3⟩ := RF.cells i hi
    have hgf := RF.lt
    obtain ⟨⟨xk, xn, xt⟩, hx⟩ : ∃ x : Val, x = L[i].v := ⟨_, rfl⟩
    have hok := HA.out L[i] (List.getElem_mem _)
    rw [← hx] at hok
    have e1 : L[i].v.k = xk := by rw [← hx]
    have e2 : L[i].v.n = xn := by rw [← hx]
    have e3 : L[i].v.t = xt := by rw [← hx]
    rw [e1] at x1
    rw [e2] at x2
    rw [e3] at x3
    rw [← hx] at hDe
    have HDE : Hid _ := hDe
    have HK : Hid _ := hok.1
    have hsx : xt.size ≤ 300 := hok.2.1
    have hi2 : (i : Int) < (L.length : Int) := by omega
    have hrt := HT.out.next hbw2
    have hgc : g < w2.heap.size := by omega
    clear HP HDN HDS hname hfv hok e1 e2 e3 hx x0 RF hDe
    by_cases hc1 : cap - 1 = 0
    · rw [if_pos hc1] at hrt
      have HRT : Hid _ := hrt
      clear hrt
      go_wp2_with fail
      go_region_with (go_at_call 96; refine (HI.out d' ⟨xk, xn, xt⟩ g off _ _ HK.out hsx (by omega) (HRT.out.next (by (repeat (first | (with_reducible exact Below.refl _ _) | (with_reducible assumption) | (with_reducible apply below_drewN) | (with_reducible apply Below.drew) | ((with_reducible refine Below.setCell ?_ ?_ _); rotate_left; focus (first | (simp; done) | (simp; omega) | omega)) | ((with_reducible refine Below.alloc ?_ ?_ _); rotate_left; focus (first | (simp; done) | (simp; omega) | omega))))))).mono ?_; rintro e w3 ⟨hO, hb3⟩; have HO : Hid (RowO _ _ _) := hO; obtain ⟨p3, c3, rfl, _⟩ := hO.row; clear hO)
      all_goals
        have hb4 : Below w.heap.size w w3 := hbw2.trans ((show Below w2.heap.size w2 w3 from (show Below w2.heap.size w2 _ by (repeat (first | (with_reducible exact Below.refl _ _) | (with_reducible assumption) | (with_reducible apply below_drewN) | (with_reducible apply Below.drew) | ((with_reducible refine Below.setCell ?_ ?_ _); rotate_left; focus (first | (simp; done) | (simp; omega) | omega)) | ((with_reducible refine Below.alloc ?_ ?_ _); rotate_left; focus (first | (simp; done) | (simp; omega) | omega))))).trans (hb3.mono (by simp))).mono hz2)
        clear hb3
        go_wp2_with fail
        go_ret
        exact ⟨by rw [HDE.out]; exact HO.out, hb4⟩
    · rw [if_neg hc1] at hrt
      have HRT : Hid _ := hrt
      clear hrt
      go_wp2_with fail
      go_region_with (go_at_call 96; refine (HI.out d' ⟨xk, xn, xt⟩ g (off + 1) _ _ HK.out hsx (by omega) (HRT.out.next (by (repeat (first | (with_reducible exact Below.refl _ _) | (with_reducible assumption) | (with_reducible apply below_drewN) | (with_reducible apply Below.drew) | ((with_reducible refine Below.setCell ?_ ?_ _); rotate_left; focus (first | (simp; done) | (simp; omega) | omega)) | ((with_reducible refine Below.alloc ?_ ?_ _); rotate_left; focus (first | (simp; done) | (simp; omega) | omega))))))).mono ?_; rintro e w3 ⟨hO, hb3⟩; have HO : Hid (RowO _ _ _) := hO; obtain ⟨p3, c3, rfl, _⟩ := hO.row; clear hO)
      all_goals
        have hb4 : Below w.heap.size w w3 := hbw2.trans ((show Below w2.heap.size w2 w3 from (show Below w2.heap.size w2 _ by (repeat (first | (with_reducible exact Below.refl _ _) | (with_reducible assumption) | (with_reducible apply below_drewN) | (with_reducible apply Below.drew) | ((with_reducible refine Below.setCell ?_ ?_ _); rotate_left; focus (first | (simp; done) | (simp; omega) | omega)) | ((with_reducible refine Below.alloc ?_ ?_ _); rotate_left; focus (first | (simp; done) | (simp; omega) | omega))))).trans (hb3.mono (by simp))).mono hz2)
        clear hb3
        go_wp2_with fail
        go_ret
        exact ⟨by rw [HDE.out]; exact HO.out, hb4⟩

end Go.Proofs.YtdchhjnmhnehiaaGreatDoor
