/- What the specification's way along a path answers, for every right value: the whole of it. -/
import Derived.Test.YtdchhjnmhnehiaaGreatDoorGetS
import Derived.Laws.AppendOwnNone
import Derived.Deep.DeepCutAuto
namespace Go.Proofs.YtdchhjnmhnehiaaGreatDoor
open Go.RowKit
set_option linter.unusedVariables false

/-- A row of values in new memory is answered. -/
def OutV (l : List Val) (w' : World) (e : Ending) : Prop := ∃ g cap, e = .returned (.slice (some ⟨g, 0, none⟩) l.length cap) ∧ ReadV w' g l
theorem OutV.mk {l : List Val} {w' : World} {e : Ending} (g cap : Nat) (h : e = .returned (.slice (some ⟨g, 0, none⟩) l.length cap)) (hr : ReadV w' g l) : OutV l w' e := ⟨g, cap, h, hr⟩
theorem owns_one (w : World) (v : Val) {base : Nat} (hb : base ≤ w.heap.size) : (w.alloc (.cells #[.int .i64 v.k, .int .i64 v.n, .string v.t] 38)).ownsRow base 38 3 (.slice (some ⟨w.heap.size, 0, none⟩) 1 1) 1 (flat [v]) :=
  ⟨rfl, .inr ⟨w.heap.size, 1, _, rfl, hb, heap_alloc_new w _, Nat.le_refl _, by unfold maxLen; omega, rfl, rfl⟩⟩
theorem flat_one (l : List Val) : ∀ u ∈ flat l, u.oneCell' = true := by
  intro u hu
  unfold flat at hu
  obtain ⟨v, _, hv⟩ := List.mem_flatMap.mp hu
  simp [row] at hv
  rcases hv with rfl | rfl | rfl <;> rfl
theorem addr0 (g j : Nat) : (⟨g, 0, none⟩ : Addr).add j = ⟨g, j, none⟩ := by unfold Addr.add; split <;> simp_all
theorem ReadV.flat {w : World} {g : Nat} {l : List Val} (h : ReadV w g l) : ∀ j u, (flat l)[j]? = some u → w.cell? ((⟨g, 0, none⟩ : Addr).add j) = some u := by
  intro j u hu
  rw [addr0]
  obtain ⟨i, hi, hc⟩ := flat_at l j u hu
  have hx := h.cells i hi
  rcases hc with ⟨rfl, rfl⟩ | ⟨rfl, rfl⟩ | ⟨rfl, rfl⟩
  · exact hx.1
  · exact hx.2.1
  · exact hx.2.2
theorem flat_app (a b : List Val) : flat (a ++ b) = flat a ++ flat b := by unfold flat; simp

/-- Some block of U holds three cells, and all that lay in w lies in U as it did. -/
structure Lies3 (w U : World) (b : Nat) (x y z : Value) : Prop where
  bel : Below w.heap.size w U
  lt : b < U.heap.size
  c0 : U.cell? ⟨b, 0, none⟩ = some x
  c1 : U.cell? ⟨b, 1, none⟩ = some y
  c2 : U.cell? ⟨b, 2, none⟩ = some z

def GetAt (ws : List ByteArray) : Prop := ∀ (d : Nat) (v : Val) (g off cap : Nat) (w : World), fits d v = true → v.t.size ≤ 300 → ws.length ≤ cap → ReadS w g off ws →
    Calls Tryz.prog 125 #[.agg #[.int .i64 v.k, .int .i64 v.n, .string v.t], .slice (some ⟨g, off, none⟩) ws.length cap] w fun e w' => OutV (getP ws v) w' e ∧ Below w.heap.size w w'

set_option maxRecDepth 4000 in
set_option maxHeartbeats 2000000 in
theorem get_end : GetAt [] := by
  intro d v g off cap w hf hs hcap hr
  obtain ⟨i0, hi0, hz0, hz1, hz2⟩ := info_parts infoV
  rw [getP_end]
  have X0 := Boxed.start w (.int .i64 v.k) (.int .i64 v.n) (.string v.t) 38
  have X1 := X0.step ((Below.refl _ _).alloc (Nat.le_refl _) (.cells #[.int .i64 v.k, .int .i64 v.n, .string v.t] 38))
  have O1 := owns_one (w.alloc (.cells #[.int .i64 v.k, .int .i64 v.n, .string v.t] 38)) v (base := w.heap.size) (by simp)
  clear hr
  by_cases h4 : v.k = 4
  · rw [if_pos h4]
    obtain ⟨hs1, hi, hl, _⟩ := list_parts d v hf h4
    have HI : Hid _ := hi
    obtain ⟨L, hL⟩ : ∃ L, L = itms v := ⟨_, rfl⟩
    rw [← hL] at HI hl ⊢
    have e4 : (v.k == 4) = true := by simp [h4]
    clear hi hL hf h4 X0
    go_enter Tryz.func125, Tryz.ntmps125
    go_wp2_with fail
    refine (l01Items_any v.t _ (by omega)).mono ?_
    rintro e w1 ⟨⟨g1, m, cap1, rfl, hown0⟩, hb⟩
    obtain ⟨rfl, hown1⟩ := hown0 L HI.out
    rw [HI.out]
    have O2 := owns_below O1 hb
    have X2 := X1.step hb
    have hbw := X2.bel
    have hz := hbw.size
    simp only [heap_size_alloc] at O2
    clear hown0 hb X1 X2 O1
    go_wp2_with (at_builtin; refine wpList_append_own _ rfl (.tmp 28) (.tmp 29) 107 rfl w.heap.size 38 i0 (.agg #[.int .i64 0, .int .i64 0, .string em]) 3 32 Tryz.underlying107 hi0 hz0 hz1 hz2 rfl (by decide) _ _ _ rfl O2 ⟨g1, 0, none⟩ L.length cap1 (flat L) rfl (flat_len L) (hown1.cells rfl) (flat_one L) ?c3 ?c4 hz ?_)
    case c3 => unfold maxLen; omega
    case c4 => omega
    intro v' w2 hown2 hgrow hnv
    have hb2 : Below w.heap.size w w2 := Below.grown hbw hgrow hz (owns_block O2)
    rw [← flat_app, show 1 + L.length = (v :: L).length by simp; omega] at hown2
    obtain ⟨g3, cap3, hv⟩ := owns_shape hown2 hnv
    subst hv
    have R := ReadV.of_own hown2
    have HR : Hid _ := R
    clear hown2 hgrow hnv hown1 O2 R hbw hz
    go_wp2_with fail
    go_ret
    exact ⟨OutV.mk g3 cap3 rfl HR.out, hb2⟩
  · rw [if_neg h4]
    have e4 : (v.k == 4) = false := beq_eq_false_iff_ne.mpr h4
    have R := ReadV.of_own (l := [v]) O1
    simp only [heap_size_alloc] at R
    have HR : Hid _ := R
    have hbw := X1.bel
    clear R O1 X0 hf h4 X1
    go_enter Tryz.func125, Tryz.ntmps125
    go_wp2_with fail
    go_ret
    exact ⟨OutV.mk _ 1 rfl HR.out, hbw⟩

theorem tailS {w : World} {g off : Nat} {x : ByteArray} {l : List ByteArray} (h : ReadS w g off (x :: l)) (cap : Nat) (hcap : l.length + 1 ≤ cap) : ReadS w g (if cap - 1 = 0 then off else off + 1) l := by
  by_cases hc : cap - 1 = 0
  · rw [if_pos hc]
    have : l = [] := List.eq_nil_of_length_eq_zero (by omega)
    subst this
    exact ⟨h.lt, fun i hi => absurd hi (by simp)⟩
  · rw [if_neg hc]; exact h.tail
set_option maxRecDepth 4000 in
set_option maxHeartbeats 2000000 in
theorem get_doc (nm : ByteArray) (ws : List ByteArray) (ih : GetAt ws) (d : Nat) (n : Int) (t : ByteArray) (g off cap : Nat) (w : World) (hf : fits d ⟨5, n, t⟩ = true) (hr : ReadS w g off (nm :: ws)) (hws : ws.length ≤ 1000) (hcap : ws.length + 1 ≤ cap) :
    Calls Tryz.prog 125 #[.agg #[.int .i64 5, .int .i64 n, .string t], .slice (some ⟨g, off, none⟩) (ws.length + 1) cap] w fun e w' => OutV (docP (getP ws) nm ⟨5, n, t⟩) w' e ∧ Below w.heap.size w w' := by
  obtain ⟨hs, hfi, hl, hrise, d', rfl, hall, _⟩ := doc_parts d ⟨5, n, t⟩ hf rfl
  obtain ⟨L, hL⟩ : ∃ L, L = flds ⟨5, n, t⟩ := ⟨_, rfl⟩
  rw [← hL] at hfi hall hl
  have HA : Hid _ := hall
  have hs' : t.size ≤ 300 := hs
  have hfi' : fields t = some L := hfi
  have X0 := Boxed.start w (.int .i64 5) (.int .i64 n) (.string t) 38
  have R0 := hr.next X0.bel
  have n0 := R0.cells 0 (by simp)
  rw [Nat.add_zero] at n0
  have n1 : (w.alloc (.cells #[.int .i64 5, .int .i64 n, .string t] 38)).cell? ⟨g, off, none⟩ = some (.string nm) := n0
  have hgl := hr.lt
  have HT : Hid _ := tailS hr cap hcap
  have HC1 := fun W : World => l02Field_any 5 n t nm L W (by omega) hfi' (by omega)
  have HI : Hid (GetAt _) := ih
  obtain ⟨P, hP⟩ : ∃ P, P = fieldR nm L := ⟨_, rfl⟩
  rw [← hP] at HC1
  obtain ⟨⟨xk, xn, xt⟩, xb⟩ := P
  have HC0 : ∀ W : World, Calls Tryz.prog 146 #[.agg #[.int .i64 5, .int .i64 n, .string t], .string nm] W fun e w' => e = .returned (.tuple #[.agg #[.int .i64 xk, .int .i64 xn, .string xt], .bool xb]) ∧ Below W.heap.size W w' := HC1
  obtain ⟨D, hD⟩ : ∃ D, D = docP (getP ws) nm ⟨5, n, t⟩ := ⟨_, rfl⟩
  rw [← hD]
  have hcase : (xb = false ∧ D = []) ∨ (xb = true ∧ D = getP ws ⟨xk, xn, xt⟩ ∧ fits d' ⟨xk, xn, xt⟩ = true ∧ xt.size ≤ 300) := by
    cases hfv : fieldV nm L with
    | none =>
      rw [fieldR_none nm L hfv] at hP
      injection hP with h1 h2
      exact .inl ⟨h2, by rw [hD, docP_none _ _ _ (by rw [← hL]; exact hfv)]⟩
    | some x =>
      rw [fieldR_some nm L x hfv] at hP
      injection hP with h1 h2
      obtain ⟨f, hfm, hfx⟩ := fieldV_mem nm x L hfv
      have hok := hall f hfm
      rw [hfx, ← h1] at hok
      exact .inr ⟨h2, by rw [hD, docP_some _ _ _ _ (by rw [← hL]; exact hfv), h1], hok.1, hok.2.1⟩
  have HC : Hid _ := HC0
  have HCS : Hid _ := hcase
  clear n0 HC0 HC1 ih hL hfi hfi' hs hf hD hP hall hcase
  go_enter Tryz.func125, Tryz.ntmps125
  go_wp2_with fail
  generalize w.alloc (.cells #[.int .i64 5, .int .i64 n, .string t] 38) = W0 at X0 R0 n1 ⊢
  have a0 := X0.c0
  have a1 := X0.c1
  have a2 := X0.c2
  have hlt0 := X0.lt
  have hgW := R0.lt
  have hpos : (0 : Int) < (ws.length : Int) + 1 := by omega
  go_cut [8, 9] (fun s8 s9 wx => ∃ b, s8 = .pointer (some ⟨b, 0, none⟩) ∧ s9 = .bool xb ∧ Lies3 w wx b (.int .i64 xk) (.int .i64 xn) (.string xt))
  case first =>
    go_region_with (go_at_call 146; refine (HC.out _).mono ?_; rintro e w1 ⟨rfl, hb⟩; obtain ⟨hc, hf⟩ := bcell hb; have hz := hb.size; simp at hz)
    all_goals
      have hbw0 : Below W0.heap.size W0 w1 := by first | exact (Below.refl _ _).drew.trans (hb.mono (by simp)) | exact ((Below.refl _ _).alloc (Nat.le_refl _) _).drew.trans (hb.mono (by simp))
      have hbw : Below w.heap.size w w1 := X0.bel.trans (hbw0.mono X0.bel.size)
      have hzz := hbw0.size
      have hz1 := hbw.size
      try go_wp2_with fail
      go_meet
      exact ⟨_, rfl, rfl, ⟨by (repeat (first | (with_reducible exact Below.refl _ _) | (with_reducible assumption) | (with_reducible apply below_drewN) | (with_reducible apply Below.drew) | ((with_reducible refine Below.setCell ?_ ?_ _); rotate_left; focus (first | (simp; done) | (simp; omega) | omega)) | ((with_reducible refine Below.alloc ?_ ?_ _); rotate_left; focus (first | (simp; done) | (simp; omega) | omega)))), by simp; try omega, by simp [go_sem, *], by simp [go_sem, *], by simp [go_sem, *]⟩⟩
  case rest =>
    obtain ⟨b, rfl, rfl, Y⟩ := hcut
    have b0 := Y.c0
    have b1 := Y.c1
    have b2 := Y.c2
    have hblt := Y.lt
    have hbw := Y.bel
    have hz1 := hbw.size
    rcases HCS.out with ⟨hxb, hD⟩ | ⟨hxb, hD, hfx, hsx⟩
    · subst hxb hD
      clear Y
      go_wp2_with fail
      go_ret
      exact ⟨OutV.mk _ _ rfl ⟨by simp, fun i hi => absurd hi (by simp)⟩, by (repeat (first | (with_reducible exact Below.refl _ _) | (with_reducible assumption) | (with_reducible apply below_drewN) | (with_reducible apply Below.drew) | ((with_reducible refine Below.setCell ?_ ?_ _); rotate_left; focus (first | (simp; done) | (simp; omega) | omega)) | ((with_reducible refine Below.alloc ?_ ?_ _); rotate_left; focus (first | (simp; done) | (simp; omega) | omega))))⟩
    · subst hxb hD
      have HK : Hid _ := hfx
      have hrt := HT.out.next hbw
      have hgc : g < wc.heap.size := by omega
      clear hfx Y
      by_cases hc1 : cap - 1 = 0
      · rw [if_pos hc1] at hrt
        have HRT : Hid _ := hrt
        clear hrt
        go_wp2_with fail
        go_region_with (go_at_call 125; refine (HI.out d' ⟨xk, xn, xt⟩ g off _ _ HK.out hsx (by omega) (HRT.out.next (by (repeat (first | (with_reducible exact Below.refl _ _) | (with_reducible assumption) | (with_reducible apply below_drewN) | (with_reducible apply Below.drew) | ((with_reducible refine Below.setCell ?_ ?_ _); rotate_left; focus (first | (simp; done) | (simp; omega) | omega)) | ((with_reducible refine Below.alloc ?_ ?_ _); rotate_left; focus (first | (simp; done) | (simp; omega) | omega))))))).mono ?_; rintro e w2 ⟨⟨g2, cap2, rfl, R2⟩, hb2⟩)
        all_goals
          have HR2 : Hid _ := R2
          have hb3 : Below w.heap.size w w2 := hbw.trans ((show Below wc.heap.size wc w2 from (show Below wc.heap.size wc _ by (repeat (first | (with_reducible exact Below.refl _ _) | (with_reducible assumption) | (with_reducible apply below_drewN) | (with_reducible apply Below.drew) | ((with_reducible refine Below.setCell ?_ ?_ _); rotate_left; focus (first | (simp; done) | (simp; omega) | omega)) | ((with_reducible refine Below.alloc ?_ ?_ _); rotate_left; focus (first | (simp; done) | (simp; omega) | omega))))).trans (hb2.mono (by simp))).mono hz1)
          clear R2 hb2
          go_wp2_with fail
          go_ret
          exact ⟨OutV.mk g2 cap2 rfl HR2.out, hb3⟩
      · rw [if_neg hc1] at hrt
        have HRT : Hid _ := hrt
        clear hrt
        go_wp2_with fail
        go_region_with (go_at_call 125; refine (HI.out d' ⟨xk, xn, xt⟩ g (off + 1) _ _ HK.out hsx (by omega) (HRT.out.next (by (repeat (first | (with_reducible exact Below.refl _ _) | (with_reducible assumption) | (with_reducible apply below_drewN) | (with_reducible apply Below.drew) | ((with_reducible refine Below.setCell ?_ ?_ _); rotate_left; focus (first | (simp; done) | (simp; omega) | omega)) | ((with_reducible refine Below.alloc ?_ ?_ _); rotate_left; focus (first | (simp; done) | (simp; omega) | omega))))))).mono ?_; rintro e w2 ⟨⟨g2, cap2, rfl, R2⟩, hb2⟩)
        all_goals
          have HR2 : Hid _ := R2
          have hb3 : Below w.heap.size w w2 := hbw.trans ((show Below wc.heap.size wc w2 from (show Below wc.heap.size wc _ by (repeat (first | (with_reducible exact Below.refl _ _) | (with_reducible assumption) | (with_reducible apply below_drewN) | (with_reducible apply Below.drew) | ((with_reducible refine Below.setCell ?_ ?_ _); rotate_left; focus (first | (simp; done) | (simp; omega) | omega)) | ((with_reducible refine Below.alloc ?_ ?_ _); rotate_left; focus (first | (simp; done) | (simp; omega) | omega))))).trans (hb2.mono (by simp))).mono hz1)
          clear R2 hb2
          go_wp2_with fail
          go_ret
          exact ⟨OutV.mk g2 cap2 rfl HR2.out, hb3⟩

end Go.Proofs.YtdchhjnmhnehiaaGreatDoor
