/- What the specification's way along a path answers, for every right value. -/
import Derived.Test.YtkeghknceccdmaaGreatDoorGetM
import Derived.Test.YtkeghknceccdmaaGreatDoorSplitWQ
import Derived.Test.YtkeghknceccdmaaGreatDoorOwnQ
import Derived.Test.YtkeghknceccdmaaGreatDoorListA
import Derived.Deep.RegionWith
import Derived.Laws.AppendOwnNone
import Derived.Deep.DeepCutAuto
import Derived.Maps.AppendAt
namespace Go.Proofs.YtkeghknceccdmaaGreatDoor
open Go.RowKit
set_option linter.unusedVariables false

/-- A value, and whether it is there. -/
def fieldR (nm : ByteArray) (l : List Fld) : Val × Bool := match fieldV nm l with | none => (zv, false) | some x => (x, true)
theorem fieldR_none (nm : ByteArray) (l : List Fld) (h : fieldV nm l = none) : fieldR nm l = (zv, false) := by unfold fieldR; rw [h]
theorem fieldR_some (nm : ByteArray) (l : List Fld) (x : Val) (h : fieldV nm l = some x) : fieldR nm l = (x, true) := by unfold fieldR; rw [h]

set_option maxRecDepth 4000 in
set_option maxHeartbeats 2000000 in
theorem l02Field_any (k n : Int) (t nm : ByteArray) (l : List Fld) (w : World) (hs : t.size ≤ 1048576) (hf : fields t = some l) (hl : l.length ≤ 1048576) :
    Calls Tryz.prog 275 #[.agg #[.int .i64 k, .int .i64 n, .string t], .string nm] w fun e w' => e = .returned (.tuple #[aggV (fieldR nm l).1, .bool (fieldR nm l).2]) ∧ Below w.heap.size w w' := by
  obtain ⟨P, hP⟩ : ∃ P, P = fieldR nm l := ⟨_, rfl⟩
  rw [← hP]
  have HP : Hid _ := hP
  have HF : Hid _ := hf
  have Y0 := Res3.start (w.alloc (.cells #[.int .i64 k, .int .i64 n, .string t] 28)) (.int .i64 0) (.int .i64 0) (.string em) 28
  clear hP hf
  go_enter Tryz.func275, Tryz.ntmps275
  go_wp2_with fail
  refine (l01Fields_any t _ hs).mono ?_
  rintro e w1 ⟨⟨g, m, cap, rfl, hown0⟩, hb⟩
  obtain ⟨rfl, hown⟩ := hown0 l HF.out
  clear hown0
  rw [HF.out]
  have Y1 := Y0.step hb
  have HR : Hid _ := ReadF.of_own hown
  have hbw : Below w.heap.size w w1 := ((Below.refl _ _).alloc (Nat.le_refl _) _).trans (Y1.bel.mono (by simp))
  have HBW : Hid _ := hbw
  clear hb hown Y0 hbw
  go_wp2_with fail
  go_loopw [8] (fun i wr => ∃ q : Nat, q ≤ l.length ∧ i = .int .i64 q ∧ (∀ j (h : j < l.length), j < q → l[j].name ≠ nm) ∧ Below w1.heap.size w1 wr) (fun i _ => l.length - (intOf i).toNat)
  case atStart => exact ⟨0, Nat.zero_le _, rfl, fun j h h2 => absurd h2 (by omega), Below.refl _ _⟩
  case round =>
    obtain ⟨q, hq, rfl, hno, hbel⟩ := hrel
    have HN : Hid _ := hno
    clear hno
    have Y := Y1.step hbel
    have hbw : Below w.heap.size w wr := HBW.out.trans (hbel.mono HBW.out.size)
    have R := HR.out.next hbel
    have g0 := Y.c0
    have g1 := Y.c1
    have g2 := Y.c2
    have z0 := Y.z0
    have z1 := Y.z1
    have z2 := Y.z2
    have hlt1 := Y.lt
    simp only [heap_size_alloc] at g0 g1 g2 z0 z1 z2 hlt1
    clear Y
    by_cases hlt : q < l.length
    · obtain ⟨x0, x1, x2, x3⟩ := R.cells q hlt
      have hgl := R.lt
      clear R
      by_cases hn : l[q].name = nm
      · have hb1 : (l[q].name.toList == nm.toList) = true := (eqL _ _).mpr hn
        have hp := HP.out
        rw [fieldR_some nm l l[q].v (fieldV_at nm l q hlt HN.out hn)] at hp
        subst hp
        clear HP
        go_wp2_with fail
        refine bodyPost_ret (v := .tuple #[aggV l[q].v, .bool true]) (by simp [results, Tryz.results275, go_sem, *]) rfl ⟨rfl, ?_⟩
        (repeat (first | (with_reducible exact Below.refl _ _) | (with_reducible assumption) | (with_reducible apply below_drewN) | (with_reducible apply Below.drew) | ((with_reducible refine Below.setCell ?_ ?_ _); rotate_left; focus (first | (simp; done) | (simp; omega) | omega)) | ((with_reducible refine Below.alloc ?_ ?_ _); rotate_left; focus (first | (simp; done) | (simp; omega) | omega))))
      · have hb1 : (l[q].name.toList == nm.toList) = false := eqL_false _ _ hn
        have HQ : Hid _ := hn
        clear hn
        go_wp2_with fail
        go_roundw
        case rel =>
          refine ⟨q + 1, by omega, by go_num, ?_, hbel⟩
          intro j hj hjq
          rcases Nat.lt_or_ge j q with h | h
          · exact HN.out j hj h
          · obtain rfl : j = q := by omega
            exact HQ.out
        case measure => simp [intOf]; omega
    · have hp := HP.out
      rw [fieldR_none nm l (fieldV_none nm l (fun f hf => by
        obtain ⟨j, hj, rfl⟩ := List.getElem_of_mem hf
        exact HN.out j hj (by omega)))] at hp
      subst hp
      clear HP
      go_wp2_with fail
      refine bodyPost_ret (v := .tuple #[.agg #[.int .i64 0, .int .i64 0, .string em], .bool false]) (by simp [results, Tryz.results275, go_sem, *]) rfl ⟨rfl, ?_⟩
      (repeat (first | (with_reducible exact Below.refl _ _) | (with_reducible assumption) | (with_reducible apply below_drewN) | (with_reducible apply Below.drew) | ((with_reducible refine Below.setCell ?_ ?_ _); rotate_left; focus (first | (simp; done) | (simp; omega) | omega)) | ((with_reducible refine Below.alloc ?_ ?_ _); rotate_left; focus (first | (simp; done) | (simp; omega) | omega))))

end Go.Proofs.YtkeghknceccdmaaGreatDoor

/- What the specification's way along a path answers, for every right value: the whole of it. -/
namespace Go.Proofs.YtkeghknceccdmaaGreatDoor
open Go.RowKit
set_option linter.unusedVariables false

/-- A row of values in new memory is answered. -/
def OutV (l : List Val) (w' : World) (e : Ending) : Prop := ∃ g cap, e = .returned (.slice (some ⟨g, 0, none⟩) l.length cap) ∧ ReadV w' g l
theorem OutV.mk {l : List Val} {w' : World} {e : Ending} (g cap : Nat) (h : e = .returned (.slice (some ⟨g, 0, none⟩) l.length cap)) (hr : ReadV w' g l) : OutV l w' e := ⟨g, cap, h, hr⟩
theorem owns_one (w : World) (v : Val) {base : Nat} (hb : base ≤ w.heap.size) : (w.alloc (.cells #[.int .i64 v.k, .int .i64 v.n, .string v.t] 28)).ownsRow base 28 3 (.slice (some ⟨w.heap.size, 0, none⟩) 1 1) 1 (flat [v]) :=
  ⟨rfl, .inr ⟨w.heap.size, 1, _, rfl, hb, heap_alloc_new w _, Nat.le_refl _, by unfold maxLen; omega, rfl, rfl⟩⟩
theorem flat_one (l : List Val) : ∀ u ∈ flat l, u.oneCell' = true := by
  intro u hu
  unfold flat at hu
  obtain ⟨v, _, hv⟩ := List.mem_flatMap.mp hu
  simp [row] at hv
  rcases hv with rfl | rfl | rfl <;> rfl
theorem addr0 (g j : Nat) : (⟨g, 0, none⟩ : Addr).add j = ⟨g, j, none⟩ := by unfold Addr.add; split <;> simp_all
theorem ReadV.flat {w : World} {g : Nat} {l : List Val} (h : ReadV w g l) : ∀ j u, (flat l)[j]? = some u → w.cell? ((⟨g, 0, none⟩ : Addr).add j) = some u := by
  intro j u hu
  rw [addr0]
  obtain ⟨i, hi, hc⟩ := flat_at l j u hu
  have hx := h.cells i hi
  rcases hc with ⟨rfl, rfl⟩ | ⟨rfl, rfl⟩ | ⟨rfl, rfl⟩
  · exact hx.1
  · exact hx.2.1
  · exact hx.2.2
theorem flat_app (a b : List Val) : flat (a ++ b) = flat a ++ flat b := by unfold flat; simp

/-- Some block of U holds three cells, and all that lay in w lies in U as it did. -/
structure Lies3 (w U : World) (b : Nat) (x y z : Value) : Prop where
  bel : Below w.heap.size w U
  lt : b < U.heap.size
  c0 : U.cell? ⟨b, 0, none⟩ = some x
  c1 : U.cell? ⟨b, 1, none⟩ = some y
  c2 : U.cell? ⟨b, 2, none⟩ = some z

def GetAt (ws : List ByteArray) : Prop := ∀ (d : Nat) (v : Val) (g off cap : Nat) (w : World), fits d v = true → v.t.size ≤ 300 → ws.length ≤ cap → ReadS w g off ws →
    Calls Tryz.prog 327 #[.agg #[.int .i64 v.k, .int .i64 v.n, .string v.t], .slice (some ⟨g, off, none⟩) ws.length cap] w fun e w' => OutV (getP ws v) w' e ∧ Below w.heap.size w w'

set_option maxRecDepth 4000 in
set_option maxHeartbeats 2000000 in
theorem get_end : GetAt [] := by
  intro d v g off cap w hf hs hcap hr
  obtain ⟨i0, hi0, hz0, hz1, hz2⟩ := info_parts infoV
  rw [getP_end]
  have X0 := Boxed.start w (.int .i64 v.k) (.int .i64 v.n) (.string v.t) 28
  have X1 := X0.step ((Below.refl _ _).alloc (Nat.le_refl _) (.cells #[.int .i64 v.k, .int .i64 v.n, .string v.t] 28))
  have O1 := owns_one (w.alloc (.cells #[.int .i64 v.k, .int .i64 v.n, .string v.t] 28)) v (base := w.heap.size) (by simp)
  clear hr
  by_cases h4 : v.k = 4
  · rw [if_pos h4]
    obtain ⟨hs1, hi, hl, _⟩ := list_parts d v hf h4
    have HI : Hid _ := hi
    obtain ⟨L, hL⟩ : ∃ L, L = itms v := ⟨_, rfl⟩
    rw [← hL] at HI hl ⊢
    have e4 : (v.k == 4) = true := by simp [h4]
    clear hi hL hf h4 X0
    go_enter Tryz.func327, Tryz.ntmps327
    go_wp2_with fail
    refine (l01Items_any v.t _ (by omega)).mono ?_
    rintro e w1 ⟨⟨g1, m, cap1, rfl, hown0⟩, hb⟩
    obtain ⟨rfl, hown1⟩ := hown0 L HI.out
    rw [HI.out]
    have O2 := owns_below O1 hb
    have X2 := X1.step hb
    have hbw := X2.bel
    have hz := hbw.size
    simp only [heap_size_alloc] at O2
    clear hown0 hb X1 X2 O1
    go_wp2_with (at_builtin; refine wpList_append_own _ rfl (.tmp 28) (.tmp 29) 153 rfl w.heap.size 28 i0 (.agg #[.int .i64 0, .int .i64 0, .string em]) 3 32 Tryz.underlying153 hi0 hz0 hz1 hz2 rfl (by decide) _ _ _ rfl O2 ⟨g1, 0, none⟩ L.length cap1 (flat L) rfl (flat_len L) (hown1.cells rfl) (flat_one L) ?c3 ?c4 hz ?_)
    case c3 => unfold maxLen; omega
    case c4 => omega
    intro v' w2 hown2 hgrow hnv
    have hb2 : Below w.heap.size w w2 := Below.grown hbw hgrow hz (owns_block O2)
    rw [← flat_app, show 1 + L.length = (v :: L).length by simp; omega] at hown2
    obtain ⟨g3, cap3, hv⟩ := owns_shape hown2 hnv
    subst hv
    have R := ReadV.of_own hown2
    have HR : Hid _ := R
    clear hown2 hgrow hnv hown1 O2 R hbw hz
    go_wp2_with fail
    go_ret
    exact ⟨OutV.mk g3 cap3 rfl HR.out, hb2⟩
  · rw [if_neg h4]
    have e4 : (v.k == 4) = false := beq_eq_false_iff_ne.mpr h4
    have R := ReadV.of_own (l := [v]) O1
    simp only [heap_size_alloc] at R
    have HR : Hid _ := R
    have hbw := X1.bel
    clear R O1 X0 hf h4 X1
    go_enter Tryz.func327, Tryz.ntmps327
    go_wp2_with fail
    go_ret
    exact ⟨OutV.mk _ 1 rfl HR.out, hbw⟩

theorem tailS {w : World} {g off : Nat} {x : ByteArray} {l : List ByteArray} (h : ReadS w g off (x :: l)) (cap : Nat) (hcap : l.length + 1 ≤ cap) : ReadS w g (if cap - 1 = 0 then off else off + 1) l := by
  by_cases hc : cap - 1 = 0
  · rw [if_pos hc]
    have : l = [] := List.eq_nil_of_length_eq_zero (by omega)
    subst this
    exact ⟨h.lt, fun i hi => absurd hi (by simp)⟩
  · rw [if_neg hc]; exact h.tail
set_option maxRecDepth 4000 in
set_option maxHeartbeats 2000000 in
theorem get_doc (nm : ByteArray) (ws : List ByteArray) (ih : GetAt ws) (d : Nat) (n : Int) (t : ByteArray) (g off cap : Nat) (w : World) (hf : fits d ⟨5, n, t⟩ = true) (hr : ReadS w g off (nm :: ws)) (hws : ws.length ≤ 1000) (hcap : ws.length + 1 ≤ cap) :
    Calls Tryz.prog 327 #[.agg #[.int .i64 5, .int .i64 n, .string t], .slice (some ⟨g, off, none⟩) (ws.length + 1) cap] w fun e w' => OutV (docP (getP ws) nm ⟨5, n, t⟩) w' e ∧ Below w.heap.size w w' := by
  obtain ⟨hs, hfi, hl, hrise, d', rfl, hall, _⟩ := doc_parts d ⟨5, n, t⟩ hf rfl
  obtain ⟨L, hL⟩ : ∃ L, L = flds ⟨5, n, t⟩ := ⟨_, rfl⟩
  rw [← hL] at hfi hall hl
  have HA : Hid _ := hall
  have hs' : t.size ≤ 300 := hs
  have hfi' : fields t = some L := hfi
  have X0 := Boxed.start w (.int .i64 5) (.int .i64 n) (.string t) 28
  have R0 := hr.next X0.bel
  have n0 := R0.cells 0 (by simp)
  rw [Nat.add_zero] at n0
  have n1 : (w.alloc (.cells #[.int .i64 5, .int .i64 n, .string t] 28)).cell? ⟨g, off, none⟩ = some (.string nm) := n0
  have hgl := hr.lt
  have HT : Hid _ := tailS hr cap hcap
  have HC1 := fun W : World => l02Field_any 5 n t nm L W (by omega) hfi' (by omega)
  have HI : Hid (GetAt _) := ih
  obtain ⟨P, hP⟩ : ∃ P, P = fieldR nm L := ⟨_, rfl⟩
  rw [← hP] at HC1
  obtain ⟨⟨xk, xn, xt⟩, xb⟩ := P
  have HC0 : ∀ W : World, Calls Tryz.prog 275 #[.agg #[.int .i64 5, .int .i64 n, .string t], .string nm] W fun e w' => e = .returned (.tuple #[.agg #[.int .i64 xk, .int .i64 xn, .string xt], .bool xb]) ∧ Below W.heap.size W w' := HC1
  obtain ⟨D, hD⟩ : ∃ D, D = docP (getP ws) nm ⟨5, n, t⟩ := ⟨_, rfl⟩
  rw [← hD]
  have hcase : (xb = false ∧ D = []) ∨ (xb = true ∧ D = getP ws ⟨xk, xn, xt⟩ ∧ fits d' ⟨xk, xn, xt⟩ = true ∧ xt.size ≤ 300) := by
    cases hfv : fieldV nm L with
    | none =>
      rw [fieldR_none nm L hfv] at hP
      injection hP with h1 h2
      exact .inl ⟨h2, by rw [hD, docP_none _ _ _ (by rw [← hL]; exact hfv)]⟩
    | some x =>
      rw [fieldR_some nm L x hfv] at hP
      injection hP with h1 h2
      obtain ⟨f, hfm, hfx⟩ := fieldV_mem nm x L hfv
      have hok := hall f hfm
      rw [hfx, ← h1] at hok
      exact .inr ⟨h2, by rw [hD, docP_some _ _ _ _ (by rw [← hL]; exact hfv), h1], hok.1, hok.2.1⟩
  have HC : Hid _ := HC0
  have HCS : Hid _ := hcase
  clear n0 HC0 HC1 ih hL hfi hfi' hs hf hD hP hall hcase
  go_enter Tryz.func327, Tryz.ntmps327
  go_wp2_with fail
  generalize w.alloc (.cells #[.int .i64 5, .int .i64 n, .string t] 28) = W0 at X0 R0 n1 ⊢
  have a0 := X0.c0
  have a1 := X0.c1
  have a2 := X0.c2
  have hlt0 := X0.lt
  have hgW := R0.lt
  have hpos : (0 : Int) < (ws.length : Int) + 1 := by omega
  go_cut [8, 9] (fun s8 s9 wx => ∃ b, s8 = .pointer (some ⟨b, 0, none⟩) ∧ s9 = .bool xb ∧ Lies3 w wx b (.int .i64 xk) (.int .i64 xn) (.string xt))
  case first =>
    go_region_with (go_at_call 275; refine (HC.out _).mono ?_; rintro e w1 ⟨rfl, hb⟩; obtain ⟨hc, hf⟩ := bcell hb; have hz := hb.size; simp at hz)
    all_goals
      have hbw0 : Below W0.heap.size W0 w1 := by first | exact (Below.refl _ _).drew.trans (hb.mono (by simp)) | exact ((Below.refl _ _).alloc (Nat.le_refl _) _).drew.trans (hb.mono (by simp))
      have hbw : Below w.heap.size w w1 := X0.bel.trans (hbw0.mono X0.bel.size)
      have hzz := hbw0.size
      have hz1 := hbw.size
      try go_wp2_with fail
      go_meet
      exact ⟨_, rfl, rfl, ⟨by (repeat (first | (with_reducible exact Below.refl _ _) | (with_reducible assumption) | (with_reducible apply below_drewN) | (with_reducible apply Below.drew) | ((with_reducible refine Below.setCell ?_ ?_ _); rotate_left; focus (first | (simp; done) | (simp; omega) | omega)) | ((with_reducible refine Below.alloc ?_ ?_ _); rotate_left; focus (first | (simp; done) | (simp; omega) | omega)))), by simp; try omega, by simp [go_sem, *], by simp [go_sem, *], by simp [go_sem, *]⟩⟩
  case rest =>
    obtain ⟨b, rfl, rfl, Y⟩ := hcut
    have b0 := Y.c0
    have b1 := Y.c1
    have b2 := Y.c2
    have hblt := Y.lt
    have hbw := Y.bel
    have hz1 := hbw.size
    rcases HCS.out with ⟨hxb, hD⟩ | ⟨hxb, hD, hfx, hsx⟩
    · subst hxb hD
      clear Y
      go_wp2_with fail
      go_ret
      exact ⟨OutV.mk _ _ rfl ⟨by simp, fun i hi => absurd hi (by simp)⟩, by (repeat (first | (with_reducible exact Below.refl _ _) | (with_reducible assumption) | (with_reducible apply below_drewN) | (with_reducible apply Below.drew) | ((with_reducible refine Below.setCell ?_ ?_ _); rotate_left; focus (first | (simp; done) | (simp; omega) | omega)) | ((with_reducible refine Below.alloc ?_ ?_ _); rotate_left; focus (first | (simp; done) | (simp; omega) | omega))))⟩
    · subst hxb hD
      have HK : Hid _ := hfx
      have hrt := HT.out.next hbw
      have hgc : g < wc.heap.size := by omega
      clear hfx Y
      by_cases hc1 : cap - 1 = 0
      · rw [if_pos hc1] at hrt
        have HRT : Hid _ := hrt
        clear hrt
        go_wp2_with fail
        go_region_with (go_at_call 327; refine (HI.out d' ⟨xk, xn, xt⟩ g off _ _ HK.out hsx (by omega) (HRT.out.next (by (repeat (first | (with_reducible exact Below.refl _ _) | (with_reducible assumption) | (with_reducible apply below_drewN) | (with_reducible apply Below.drew) | ((with_reducible refine Below.setCell ?_ ?_ _); rotate_left; focus (first | (simp; done) | (simp; omega) | omega)) | ((with_reducible refine Below.alloc ?_ ?_ _); rotate_left; focus (first | (simp; done) | (simp; omega) | omega))))))).mono ?_; rintro e w2 ⟨⟨g2, cap2, rfl, R2⟩, hb2⟩)
        all_goals
          have HR2 : Hid _ := R2
          have hb3 : Below w.heap.size w w2 := hbw.trans ((show Below wc.heap.size wc w2 from (show Below wc.heap.size wc _ by (repeat (first | (with_reducible exact Below.refl _ _) | (with_reducible assumption) | (with_reducible apply below_drewN) | (with_reducible apply Below.drew) | ((with_reducible refine Below.setCell ?_ ?_ _); rotate_left; focus (first | (simp; done) | (simp; omega) | omega)) | ((with_reducible refine Below.alloc ?_ ?_ _); rotate_left; focus (first | (simp; done) | (simp; omega) | omega))))).trans (hb2.mono (by simp))).mono hz1)
          clear R2 hb2
          go_wp2_with fail
          go_ret
          exact ⟨OutV.mk g2 cap2 rfl HR2.out, hb3⟩
      · rw [if_neg hc1] at hrt
        have HRT : Hid _ := hrt
        clear hrt
        go_wp2_with fail
        go_region_with (go_at_call 327; refine (HI.out d' ⟨xk, xn, xt⟩ g (off + 1) _ _ HK.out hsx (by omega) (HRT.out.next (by (repeat (first | (with_reducible exact Below.refl _ _) | (with_reducible assumption) | (with_reducible apply below_drewN) | (with_reducible apply Below.drew) | ((with_reducible refine Below.setCell ?_ ?_ _); rotate_left; focus (first | (simp; done) | (simp; omega) | omega)) | ((with_reducible refine Below.alloc ?_ ?_ _); rotate_left; focus (first | (simp; done) | (simp; omega) | omega))))))).mono ?_; rintro e w2 ⟨⟨g2, cap2, rfl, R2⟩, hb2⟩)
        all_goals
          have HR2 : Hid _ := R2
          have hb3 : Below w.heap.size w w2 := hbw.trans ((show Below wc.heap.size wc w2 from (show Below wc.heap.size wc _ by (repeat (first | (with_reducible exact Below.refl _ _) | (with_reducible assumption) | (with_reducible apply below_drewN) | (with_reducible apply Below.drew) | ((with_reducible refine Below.setCell ?_ ?_ _); rotate_left; focus (first | (simp; done) | (simp; omega) | omega)) | ((with_reducible refine Below.alloc ?_ ?_ _); rotate_left; focus (first | (simp; done) | (simp; omega) | omega))))).trans (hb2.mono (by simp))).mono hz1)
          clear R2 hb2
          go_wp2_with fail
          go_ret
          exact ⟨OutV.mk g2 cap2 rfl HR2.out, hb3⟩

end Go.Proofs.YtkeghknceccdmaaGreatDoor

/- What the specification's way along a path answers, for every right value and all names. -/
namespace Go.Proofs.YtkeghknceccdmaaGreatDoor
open Go.RowKit
set_option linter.unusedVariables false

theorem ReadV.grown {w w' : World} {g : Nat} {l : List Val} {row : Option Nat} (h : ReadV w g l) (hg : w.grownBy w' row) (hne : some g ≠ row) : ReadV w' g l :=
  ⟨Nat.lt_of_lt_of_le h.lt hg.size, fun i hi => ⟨(World.cell?_of_block (hg.block g h.lt hne)).trans (h.cells i hi).1, (World.cell?_of_block (hg.block g h.lt hne)).trans (h.cells i hi).2.1, (World.cell?_of_block (hg.block g h.lt hne)).trans (h.cells i hi).2.2⟩⟩
theorem get_doc' (nm : ByteArray) (ws : List ByteArray) (ih : GetAt ws) (d : Nat) (v : Val) (g off cap : Nat) (w : World) (h5 : v.k = 5) (hf : fits d v = true) (hr : ReadS w g off (nm :: ws)) (hws : ws.length ≤ 1000) (hcap : ws.length + 1 ≤ cap) :
    Calls Tryz.prog 327 #[.agg #[.int .i64 v.k, .int .i64 v.n, .string v.t], .slice (some ⟨g, off, none⟩) (ws.length + 1) cap] w fun e w' => OutV (docP (getP ws) nm v) w' e ∧ Below w.heap.size w w' := by
  obtain ⟨k, n, t⟩ := v
  have h5' : k = 5 := h5
  subst h5'
  exact get_doc nm ws ih d n t g off cap w hf hr hws hcap
/-- What comes behind a name of the first items. -/
def accP (r : Val → List Val) (nm : ByteArray) (l : List Val) (k : Nat) : List Val := (l.take k).flatMap (fun it => if it.k = 5 then docP r nm it else [])
theorem accP_succ (r : Val → List Val) (nm : ByteArray) (l : List Val) (k : Nat) (h : k < l.length) : accP r nm l (k + 1) = accP r nm l k ++ (if l[k].k = 5 then docP r nm l[k] else []) := by
  unfold accP; rw [List.take_succ_eq_append_getElem h, List.flatMap_append, List.flatMap_singleton]
theorem accP_full (r : Val → List Val) (nm : ByteArray) (l : List Val) (k : Nat) (h : l.length ≤ k) : accP r nm l k = l.flatMap (fun it => if it.k = 5 then docP r nm it else []) := by
  unfold accP; rw [List.take_of_length_le h]
theorem accP_len (ws : List ByteArray) (nm : ByteArray) (l : List Val) (k : Nat) : (accP (getP ws) nm l k).length ≤ (l.map (fun u => u.t.size)).sum := by
  have h1 := flat_len_le (f := fun it => if it.k = 5 then docP (getP ws) nm it else []) (l.take k) (fun u => by
    show (if u.k = 5 then docP (getP ws) nm u else []).length ≤ _
    split
    · exact docP_len (getP ws) (getP_len ws) nm u
    · simp)
  have h2 : ∀ (l : List Val) (k : Nat), ((l.take k).map (fun u => u.t.size)).sum ≤ (l.map (fun u => u.t.size)).sum := by
    intro l
    induction l with
    | nil => intro k; simp
    | cons u l ih =>
      intro k
      cases k with
      | zero => simp
      | succ k => rw [List.take_succ_cons, List.map_cons, List.map_cons, List.sum_cons, List.sum_cons]; have := ih k; omega
  unfold accP
  have := h2 l k
  omega

set_option maxRecDepth 4000 in
set_option maxHeartbeats 2000000 in
theorem get_list (nm : ByteArray) (ws : List ByteArray) (ih : GetAt ws) (d : Nat) (n : Int) (t : ByteArray) (g off cap : Nat) (w : World) (hf : fits d ⟨4, n, t⟩ = true) (hr : ReadS w g off (nm :: ws)) (hws : ws.length ≤ 1000) (hcap : ws.length + 1 ≤ cap) :
    Calls Tryz.prog 327 #[.agg #[.int .i64 4, .int .i64 n, .string t], .slice (some ⟨g, off, none⟩) (ws.length + 1) cap] w fun e w' => OutV ((itms ⟨4, n, t⟩).flatMap (fun it => if it.k = 5 then docP (getP ws) nm it else [])) w' e ∧ Below w.heap.size w w' := by
  obtain ⟨hs, hfi, hl, d', rfl, hall⟩ := list_parts d ⟨4, n, t⟩ hf rfl
  have hsum := itms_sum ⟨4, n, t⟩
  obtain ⟨i0, hi0, hz0, hz1, hz2⟩ := info_parts infoV
  obtain ⟨L, hL⟩ : ∃ L, L = itms ⟨4, n, t⟩ := ⟨_, rfl⟩
  rw [← hL] at hfi hall hl hsum ⊢
  have hs' : t.size ≤ 300 := hs
  have hfi' : items t = some L := hfi
  have hsum' : (L.map (fun u => u.t.size)).sum ≤ 300 := Nat.le_trans hsum hs
  have hacc := fun k => Nat.le_trans (accP_len ws nm L k) hsum'
  obtain ⟨D, hD⟩ : ∃ D, D = L.flatMap (fun it => if it.k = 5 then docP (getP ws) nm it else []) := ⟨_, rfl⟩
  rw [← hD]
  have HD : Hid _ := hD
  have HA : Hid _ := hall
  have HF : Hid _ := hfi'
  have HI : Hid (GetAt _) := ih
  have HR : Hid _ := hr
  have HACC : Hid _ := hacc
  have X0 := Boxed.start w (.int .i64 4) (.int .i64 n) (.string t) 28
  have X1 := X0.step ((Below.refl _ _).alloc (Nat.le_refl _) (.cells #[] 28))
  have O1 := World.ownsRow_made (base := w.heap.size) (size := 3) (e := 28) (w.alloc (.cells #[.int .i64 4, .int .i64 n, .string t] 28)) #[] 0 (by simp) (by unfold maxLen; omega) rfl
  clear hD hall hfi hfi' ih hr hacc hL hf hs hsum X0
  go_enter Tryz.func327, Tryz.ntmps327
  go_wp2_with fail
  refine (l01Items_any t _ (by omega)).mono ?_
  rintro e w1 ⟨⟨g1, m, cap1, rfl, hown0⟩, hb⟩
  obtain ⟨rfl, hown1⟩ := hown0 L HF.out
  rw [HF.out]
  have O2 := owns_below O1 hb
  have X2 := X1.step hb
  have hbw := X2.bel
  have R1 := ReadV.of_own hown1
  have hg1 := (hown1.lt g1 rfl).1
  simp only [heap_size_alloc] at O2 hg1
  have HO2 : Hid (World.ownsRow _ _ _ _ _ _ _) := O2
  have HBW : Hid _ := hbw
  have HR1 : Hid _ := R1
  clear hown0 hb X1 X2 O1 hown1 O2 hbw R1
  go_wp2_with fail
  go_loopw [10, 13] (fun u i wr => ∃ q : Nat, q ≤ L.length ∧ i = .int .i64 q ∧ wr.ownsRow w.heap.size 28 3 u (accP (getP ws) nm L q).length (flat (accP (getP ws) nm L q)) ∧ (¬ u = .slice none 0 0) ∧ (∀ k, u.ownBlock = some k → k ≠ g1) ∧ ReadV wr g1 L ∧ Below w.heap.size w wr) (fun _ i _ => L.length - (intOf i).toNat)
  case atStart => exact ⟨0, Nat.zero_le _, rfl, HO2.out, by simp, fun k hk => by simp [Value.ownBlock] at hk; omega, HR1.out, HBW.out⟩
  case round =>
    obtain ⟨q, hq, rfl, hown, hnn, hown2, hR, hbel⟩ := hrel
    have HN : Hid _ := hnn
    have HB2 : Hid _ := hown2
    have hz := hbel.size
    clear hnn hown2
    by_cases hlt : q < L.length
    · obtain ⟨x0, x1, x2⟩ := hR.cells q hlt
      have hgl := hR.lt
      have hlen1 := HACC.out q
      have hlen2 := HACC.out (q + 1)
      have hsucc := accP_succ (getP ws) nm L q hlt
      by_cases h5 : L[q].k = 5
      · rw [if_pos h5] at hsucc
        have e5 : (L[q].k == 5) = true := by simp [h5]
        have hdl : (docP (getP ws) nm L[q]).length ≤ 300 := by rw [hsucc, List.length_append] at hlen2; omega
        have HS : Hid _ := hsucc
        have H5 : Hid _ := h5
        have HRW : Hid _ := HR.out.next hbel
        have HRV : Hid _ := hR
        clear hsucc h5 hlen2 hR
        go_wp2_with fail
        refine (get_doc' nm ws HI.out d' L[q] g off cap _ H5.out (HA.out L[q] (List.getElem_mem _)).1 HRW.out hws hcap).mono ?_
        rintro e w2 ⟨⟨g2, cap2, rfl, R2⟩, hb⟩
        have O3 := owns_below hown hb
        have R3 := HRV.out.next hb
        have hb2 : Below w.heap.size w w2 := hbel.trans (hb.mono hz)
        have hzw := hb2.size
        clear hb hown
        go_wp2_with (at_builtin; refine wpList_append_own_at _ rfl (.tmp 72) (.tmp 78) 153 rfl w.heap.size 28 i0 (.agg #[.int .i64 0, .int .i64 0, .string em]) 3 32 Tryz.underlying153 hi0 hz0 hz1 hz2 rfl (by decide) _ _ _ rfl O3 ⟨g2, 0, none⟩ (docP (getP ws) nm L[q]).length cap2 (flat (docP (getP ws) nm L[q])) rfl (flat_len _) R2.flat (flat_one _) ?c3 ?c4 hzw ?_)
        case c3 => unfold maxLen; omega
        case c4 => omega
        intro v' w3 hown4 hgrow hnv hat
        have hne : ∀ k, v'.ownBlock = some k → k ≠ g1 := by
          intro k hk
          rcases hat with e | e
          · exact HB2.out k (e ▸ hk)
          · rw [e] at hk; injection hk with hk; have := R3.lt; omega
        have R4 := R3.grown hgrow (fun e => HB2.out g1 e.symm rfl)
        have hb4 : Below w.heap.size w w3 := Below.grown hb2 hgrow hzw (owns_block O3)
        rw [← flat_app, ← List.length_append, ← HS.out] at hown4
        have HO4 : Hid (World.ownsRow _ _ _ _ _ _ _) := hown4
        have HNE : Hid _ := hne
        have HR4 : Hid _ := R4
        have hnv' : ¬ v' = .slice none 0 0 := fun e => HN.out (hnv.mp e).1
        have HNV : Hid _ := hnv'
        clear hgrow hat hown4 hne R4 R3 O3 R2 hnv hnv'
        go_wp2_with fail
        go_roundw
        case rel => exact ⟨q + 1, by omega, by go_num, HO4.out, HNV.out, HNE.out, HR4.out, hb4⟩
        case measure => simp [intOf]; omega
      · rw [if_neg h5, List.append_nil] at hsucc
        have e5 : (L[q].k == 5) = false := beq_eq_false_iff_ne.mpr h5
        have HS : Hid _ := hsucc
        clear hsucc h5
        go_wp2_with fail
        go_roundw
        case rel => exact ⟨q + 1, by omega, by go_num, by rw [HS.out]; exact hown, HN.out, HB2.out, hR, hbel⟩
        case measure => simp [intOf]; omega
    · rw [accP_full _ _ _ _ (by omega), ← HD.out] at hown
      obtain ⟨g3, cap3, hv⟩ := owns_shape hown HN.out
      subst hv
      have R := ReadV.of_own hown
      have HR5 : Hid _ := R
      clear R hown HN HB2
      go_wp2_with fail
      go_ret
      exact ⟨OutV.mk g3 cap3 rfl HR5.out, hbel⟩

set_option maxRecDepth 4000 in
set_option maxHeartbeats 1000000 in
theorem get_other (nm : ByteArray) (ws : List ByteArray) (v : Val) (g off cap : Nat) (w : World) (h5 : v.k ≠ 5) (h4 : v.k ≠ 4) (hws : ws.length ≤ 1000) :
    Calls Tryz.prog 327 #[.agg #[.int .i64 v.k, .int .i64 v.n, .string v.t], .slice (some ⟨g, off, none⟩) (ws.length + 1) cap] w fun e w' => OutV [] w' e ∧ Below w.heap.size w w' := by
  have e5 : (v.k == 5) = false := beq_eq_false_iff_ne.mpr h5
  have e4 : (v.k == 4) = false := beq_eq_false_iff_ne.mpr h4
  go_enter Tryz.func327, Tryz.ntmps327
  go_wp2_with fail
  go_ret
  exact ⟨OutV.mk _ _ rfl ⟨by simp, fun i hi => absurd hi (by simp)⟩, by (repeat (first | (with_reducible exact Below.refl _ _) | (with_reducible assumption) | (with_reducible apply below_drewN) | (with_reducible apply Below.drew) | ((with_reducible refine Below.setCell ?_ ?_ _); rotate_left; focus (first | (simp; done) | (simp; omega) | omega)) | ((with_reducible refine Below.alloc ?_ ?_ _); rotate_left; focus (first | (simp; done) | (simp; omega) | omega))))⟩
theorem get_at : ∀ ws : List ByteArray, ws.length ≤ 1000 → GetAt ws
  | [], _ => get_end
  | nm :: ws, h => by
    have ih := get_at ws (by simp at h; omega)
    intro d v g off cap w hf hs hcap hr
    rw [List.length_cons] at hcap h ⊢
    by_cases h5 : v.k = 5
    · rw [getP_doc nm ws v h5]
      exact get_doc' nm ws ih d v g off cap w h5 hf hr (by omega) hcap
    · by_cases h4 : v.k = 4
      · rw [getP_list nm ws v h4]
        obtain ⟨k, n, t⟩ := v
        have h4' : k = 4 := h4
        subst h4'
        exact get_list nm ws ih d n t g off cap w hf hr (by omega) hcap
      · rw [getP_none nm ws v h5 h4]
        exact get_other nm ws v g off cap w h5 h4 (by omega)

end Go.Proofs.YtkeghknceccdmaaGreatDoor
