import Derived.Test.YtgjknfbkkfidbaaGreatDoorDepthMQ
import Derived.Test.YtgjknfbkkfidbaaGreatDoorOrdIQ
import Derived.Test.YtgjknfbkkfidbaaGreatDoorGetSQ
import Derived.Laws.AppendOwnNone
import Derived.Deep.RegionWith
/- What the library's search among fields that rise answers, for every name. -/
namespace Go.Proofs.YtgjknfbkkfidbaaGreatDoor
open Go.RowKit
set_option linter.unusedVariables false

set_option maxRecDepth 4000 in
set_option maxHeartbeats 1000000 in
theorem compareName_any (m : ByteArray) (k n : Int) (t nm : ByteArray) (w : World) :
    Calls Tryz.prog 213 #[.agg #[.string m, .int .i64 k, .int .i64 n, .string t], .string nm] w fun e w' => e = .returned (.int .i64 (cB m nm)) ∧ Below w.heap.size w w' := by
  go_enter Tryz.func213, Tryz.ntmps213
  go_wp2_with (go_at_call 125; refine (cmpStr_any _ _ _).mono ?_; rintro e w1 ⟨rfl, rfl⟩)
  go_ret
  exact ⟨rfl, (Below.refl _ _).alloc (Nat.le_refl _) _⟩

/-- What a search for a name answers: its place, and whether it is there. -/
def Found (l : List Fld) (nm : ByteArray) (e : Ending) : Prop := ∃ (i : Nat) (b : Bool), e = .returned (.tuple #[.int .i64 i, .bool b]) ∧ Place l nm i b
theorem Found.mk {l : List Fld} {nm : ByteArray} {e : Ending} (i : Nat) (b : Bool) (h : e = .returned (.tuple #[.int .i64 i, .bool b])) (hp : Place l nm i b) : Found l nm e := ⟨i, b, h, hp⟩
set_option maxRecDepth 8000 in
set_option maxHeartbeats 2000000 in
theorem search_any (p : Option Addr) (cap : Nat) (l : List Fld) (nm : ByteArray) (w : World) (hr : RowF w p l) (hs : Rise l) (hl : l.length ≤ 1048576) :
    Calls Tryz.prog 212 #[.slice p l.length cap, .string nm, .func (.func 213) #[] #[]] w fun e w' => Found l nm e ∧ Below w.heap.size w w' := by
  have HR : Hid (RowF _ _ _) := hr
  have HS : Hid (Rise _) := hs
  clear hr hs
  go_enter Tryz.func212, Tryz.ntmps212
  go_wp2_with fail
  go_loopw [9, 10] (fun u v wr => ∃ i j : Nat, i ≤ j ∧ j ≤ l.length ∧ u = .int .i64 i ∧ v = .int .i64 j ∧ (∀ q (h : q < l.length), q < i → ltB l[q].name nm = true) ∧ (∀ q (h : q < l.length), j ≤ q → ltB l[q].name nm = false) ∧ Below w.heap.size w wr) (fun u v _ => (intOf v).toNat - (intOf u).toNat)
  case atStart => exact ⟨0, l.length, Nat.zero_le _, Nat.le_refl _, rfl, rfl, fun q h h2 => absurd h2 (by omega), fun q h h2 => absurd h2 (by omega), Below.refl _ _⟩
  case round =>
    obtain ⟨i, j, hij, hj, rfl, rfl, hlo, hhi, hbel⟩ := hrel
    have HL : Hid _ := hlo
    have HH : Hid _ := hhi
    have hz := hbel.size
    clear hlo hhi
    by_cases hlt : i < j
    · rcases HR.out.next hbel with h0 | ⟨g, rfl, R⟩
      · subst h0; simp at hj; omega
      · have hlt2 : (i : Int) < (j : Int) := by omega
        have hh1 : (i + j) / 2 < l.length := by omega
        have hh2 : ((i : Int) + (j : Int)) / 2 < (l.length : Int) := by omega
        obtain ⟨x0, x1, x2, x3⟩ := R.cells ((i + j) / 2) hh1
        have hgl := R.lt
        clear R
        cases hc : ltB l[(i + j) / 2].name nm
        · have hnl : ¬ cB l[(i + j) / 2].name nm < 0 := by have := cB_lt l[(i + j) / 2].name nm; rw [hc] at this; simpa using this
          have HC : Hid _ := hc
          clear hc
          go_wp2_with fail
          refine (compareName_any _ _ _ _ _ _).mono ?_
          rintro e w1 ⟨rfl, hb⟩
          go_wp2_with fail
          go_roundw
          case rel =>
            refine ⟨i, (i + j) / 2, by omega, by omega, rfl, congrArg (Value.int .i64) (by omega), HL.out, ?_, hbel.trans (hb.mono hz)⟩
            intro q hq hge
            cases hq2 : ltB l[q].name nm
            · rfl
            · rcases Nat.lt_or_ge ((i + j) / 2) q with hlt3 | hge2
              · have := ltB_trans (HS.out _ _ hh1 hq hlt3) hq2
                rw [HC.out] at this; cases this
              · obtain rfl : q = (i + j) / 2 := by omega
                rw [HC.out] at hq2; cases hq2
          case measure => simp [intOf]; omega
        · have hnl : cB l[(i + j) / 2].name nm < 0 := by have := cB_lt l[(i + j) / 2].name nm; rw [hc] at this; simpa using this
          have HC : Hid _ := hc
          clear hc
          go_wp2_with fail
          refine (compareName_any _ _ _ _ _ _).mono ?_
          rintro e w1 ⟨rfl, hb⟩
          go_wp2_with fail
          go_roundw
          case rel =>
            refine ⟨(i + j) / 2 + 1, j, by omega, by omega, congrArg (Value.int .i64) (by omega), rfl, ?_, HH.out, hbel.trans (hb.mono hz)⟩
            intro q hq hlt3
            rcases Nat.lt_or_ge q ((i + j) / 2) with h3 | h3
            · exact ltB_trans (HS.out _ _ hq hh1 h3) HC.out
            · obtain rfl : q = (i + j) / 2 := by omega
              exact HC.out
          case measure => simp [intOf]; omega
    · obtain rfl : i = j := by omega
      by_cases hi : i < l.length
      · rcases HR.out.next hbel with h0 | ⟨g, rfl, R⟩
        · subst h0; simp at hi
        · obtain ⟨x0, x1, x2, x3⟩ := R.cells i hi
          have hi2 : (i : Int) < (l.length : Int) := by omega
          have hd2 : decide ((i : Int) < (l.length : Int)) = true := by simp; omega
          have hgl := R.lt
          clear R
          go_wp2_with fail
          refine (compareName_any _ _ _ _ _ _).mono ?_
          rintro e w1 ⟨rfl, hb⟩
          obtain ⟨b, hb0⟩ : ∃ b, b = (cB l[i].name nm == 0) := ⟨_, rfl⟩
          go_wp2_with fail
          go_ret2
          refine ⟨Found.mk i b (by rw [hb0]; rfl) ⟨hj, HL.out, HH.out, ?_⟩, hbel.trans (hb.mono hz)⟩
          rw [hb0, beq_iff_eq, cB_zero]
          exact ⟨fun h => ⟨hi, h⟩, fun ⟨_, h⟩ => h⟩
      · have hi2 : ¬ (i : Int) < (l.length : Int) := by omega
        have hd2 : decide ((i : Int) < (l.length : Int)) = false := by simp; omega
        go_wp2_with fail
        go_ret2
        exact ⟨Found.mk i false rfl ⟨hj, HL.out, HH.out, ⟨fun h => absurd h (by simp), fun ⟨h, _⟩ => absurd h hi⟩⟩, hbel⟩

set_option maxRecDepth 4000 in
set_option maxHeartbeats 1000000 in
theorem fieldPlace_any (p : Option Addr) (cap : Nat) (l : List Fld) (nm : ByteArray) (w : World) (hr : RowF w p l) (hs : Rise l) (hl : l.length ≤ 1048576) :
    Calls Tryz.prog 168 #[.slice p l.length cap, .string nm] w fun e w' => Found l nm e ∧ Below w.heap.size w w' := by
  have HR : Hid (RowF _ _ _) := hr
  have HS : Hid (Rise _) := hs
  clear hr hs
  go_enter Tryz.func168, Tryz.ntmps168
  go_wp2_with fail
  refine (search_any p cap l nm _ HR.out HS.out hl).mono ?_
  rintro e w1 ⟨⟨i, b, rfl, hp⟩, hb⟩
  have HP : Hid _ := hp
  clear hp
  go_wp2_with fail
  go_ret2
  exact ⟨Found.mk i b rfl HP.out, hb⟩

end Go.Proofs.YtgjknfbkkfidbaaGreatDoor

/- What the program's way along a path answers, for every right value and all names: the value itself with its items, and what a document's field comes to. -/
namespace Go.Proofs.YtgjknfbkkfidbaaGreatDoor
open Go.RowKit
set_option linter.unusedVariables false

/-- A row of values is answered, nil only where it has none. -/
def RowO (l : List Val) (w' : World) (e : Ending) : Prop := (e = .returned (.slice none 0 0) ∧ l = []) ∨ ∃ g cap, e = .returned (.slice (some ⟨g, 0, none⟩) l.length cap) ∧ ReadV w' g l
theorem RowO.nil {l : List Val} {w' : World} {e : Ending} (h : e = .returned (.slice none 0 0)) (hl : l = []) : RowO l w' e := .inl ⟨h, hl⟩
theorem RowO.mk {l : List Val} {w' : World} {e : Ending} (g cap : Nat) (h : e = .returned (.slice (some ⟨g, 0, none⟩) l.length cap)) (hr : ReadV w' g l) : RowO l w' e := .inr ⟨g, cap, h, hr⟩
theorem RowO.row {l : List Val} {w' : World} {e : Ending} (h : RowO l w' e) : ∃ p cap, e = .returned (.slice p l.length cap) ∧ RowV w' p l := by
  rcases h with ⟨he, hl⟩ | ⟨g, cap, he, hr⟩
  · subst hl; exact ⟨none, 0, he, .inl rfl⟩
  · exact ⟨_, cap, he, .inr ⟨g, rfl, hr⟩⟩

set_option maxRecDepth 4000 in
set_option maxHeartbeats 2000000 in
theorem withItems_any (d : Nat) (v : Val) (w : World) (hf : fits d v = true) (hs : v.t.size ≤ 300) :
    Calls Tryz.prog 181 #[.agg #[.int .i64 v.k, .int .i64 v.n, .string v.t]] w fun e w' => RowO (getP [] v) w' e ∧ Below w.heap.size w w' := by
  obtain ⟨i0, hi0, hz0, hz1, hz2⟩ := info_parts infoV
  rw [getP_end]
  have X0 := Boxed.start w (.int .i64 v.k) (.int .i64 v.n) (.string v.t) 24
  have X1 := X0.step ((Below.refl _ _).alloc (Nat.le_refl _) (.cells #[.int .i64 v.k, .int .i64 v.n, .string v.t] 24))
  have O1 := owns_one (w.alloc (.cells #[.int .i64 v.k, .int .i64 v.n, .string v.t] 24)) v (base := w.heap.size) (by simp)
  by_cases h4 : v.k = 4
  · rw [if_pos h4]
    obtain ⟨hs1, hi, hl, _⟩ := list_parts d v hf h4
    have HI : Hid _ := hi
    obtain ⟨L, hL⟩ : ∃ L, L = itms v := ⟨_, rfl⟩
    rw [← hL] at HI hl ⊢
    have e4 : (v.k == 4) = true := by simp [h4]
    clear hi hL hf h4 X0
    by_cases hL0 : L = []
    · subst hL0
      go_enter Tryz.func181, Tryz.ntmps181
      go_wp2_with fail
      refine (itemsIn_nil v.t _ (by omega) HI.out).mono ?_
      rintro e w1 ⟨rfl, hb⟩
      have O2 := owns_below O1 hb
      have X2 := X1.step hb
      have hbw := X2.bel
      simp only [heap_size_alloc] at O2
      clear hb X1 X2 O1
      have R := ReadV.of_own (l := [v]) O2
      have HR : Hid _ := R
      clear R
      go_wp2_with (at_builtin; refine wpList_append_own_none rfl (.tmp 9) (.tmp 12) 34 rfl w.heap.size 24 i0 3 Tryz.underlying34 hi0 _ _ _ rfl O2 rfl ?_)
      go_wp2_with fail
      go_ret
      exact ⟨RowO.mk _ 1 rfl HR.out, hbw⟩
    · go_enter Tryz.func181, Tryz.ntmps181
      go_wp2_with fail
      refine (itemsIn_cons v.t L _ (by omega) HI.out hL0).mono ?_
      rintro e w1 ⟨⟨g1, cap1, rfl, hown1⟩, hb⟩
      have O2 := owns_below O1 hb
      have X2 := X1.step hb
      have hbw := X2.bel
      have hz := hbw.size
      simp only [heap_size_alloc] at O2
      clear hb X1 X2 O1 hL0
      go_wp2_with (at_builtin; refine wpList_append_own _ rfl (.tmp 9) (.tmp 12) 34 rfl w.heap.size 24 i0 (.agg #[.int .i64 0, .int .i64 0, .string em]) 3 32 Tryz.underlying34 hi0 hz0 hz1 hz2 rfl (by decide) _ _ _ rfl O2 ⟨g1, 0, none⟩ L.length cap1 (flat L) rfl (flat_len L) (hown1.cells rfl) (flat_one L) ?c3 ?c4 hz ?_)
      case c3 => unfold maxLen; omega
      case c4 => omega
      intro v' w2 hown2 hgrow hnv
      have hnn : ¬ v' = .slice none 0 0 := hnv
      have hb2 : Below w.heap.size w w2 := Below.grown hbw hgrow hz (owns_block O2)
      rw [← flat_app, show 1 + L.length = (v :: L).length by simp; omega] at hown2
      obtain ⟨g3, cap3, hv⟩ := owns_shape hown2 hnn
      subst hv
      have R := ReadV.of_own hown2
      have HR : Hid _ := R
      clear hown2 hgrow hnv hown1 O2 R hbw hz hnn
      go_wp2_with fail
      go_ret
      exact ⟨RowO.mk g3 cap3 rfl HR.out, hb2⟩
  · rw [if_neg h4]
    have e4 : (v.k == 4) = false := beq_eq_false_iff_ne.mpr h4
    have R := ReadV.of_own (l := [v]) O1
    simp only [heap_size_alloc] at R
    have HR : Hid _ := R
    have hbw := X1.bel
    clear R O1 X0 hf h4 X1
    go_enter Tryz.func181, Tryz.ntmps181
    go_wp2_with fail
    go_ret
    exact ⟨RowO.mk _ 1 rfl HR.out, hbw⟩

def ComeAt (ws : List ByteArray) : Prop := ∀ (d : Nat) (v : Val) (g off cap : Nat) (w : World), fits d v = true → v.t.size ≤ 300 → ws.length ≤ cap → ReadS w g off ws →
    Calls Tryz.prog 116 #[.agg #[.int .i64 v.k, .int .i64 v.n, .string v.t], .slice (some ⟨g, off, none⟩) ws.length cap] w fun e w' => RowO (getP ws v) w' e ∧ Below w.heap.size w w'

set_option maxRecDepth 4000 in
set_option maxHeartbeats 1000000 in
theorem come_end : ComeAt [] := by
  intro d v g off cap w hf hs hcap hr
  have X0 := Boxed.start w (.int .i64 v.k) (.int .i64 v.n) (.string v.t) 24
  have HC : Hid (∀ W : World, Calls _ _ _ W _) := fun W => withItems_any d v W hf hs
  clear hf hr
  go_enter Tryz.func116, Tryz.ntmps116
  go_wp2_with fail
  refine (HC.out _).mono ?_
  rintro e w1 ⟨hO, hb⟩
  have HB : Hid _ := (X0.step hb).bel
  have HO : Hid (RowO _ _ _) := hO
  obtain ⟨p, c, rfl, _⟩ := hO.row
  clear hb hO
  go_wp2_with fail
  go_ret
  exact ⟨HO.out, HB.out⟩

set_option maxRecDepth 4000 in
set_option maxHeartbeats 2000000 in
theorem field_come (nm : ByteArray) (ws : List ByteArray) (ih : ComeAt ws) (d : Nat) (v : Val) (g off cap : Nat) (w : World) (h5 : v.k = 5) (hf : fits d v = true) (hr : ReadS w g off (nm :: ws)) (hws : ws.length ≤ 1000) (hcap : ws.length + 1 ≤ cap) :
    Calls Tryz.prog 182 #[.agg #[.int .i64 v.k, .int .i64 v.n, .string v.t], .slice (some ⟨g, off, none⟩) (ws.length + 1) cap] w fun e w' => RowO (docP (getP ws) nm v) w' e ∧ Below w.heap.size w w' := by
  obtain ⟨hs, hfi, hl, hrise, d', rfl, hall, _⟩ := doc_parts d v hf h5
  obtain ⟨D, hD⟩ : ∃ D, D = docP (getP ws) nm v := ⟨_, rfl⟩
  rw [← hD]
  have HDN : Hid (fieldV nm (flds v) = none → D = []) := fun h => by rw [hD, docP_none _ _ _ h]
  have HDS : Hid (∀ x, fieldV nm (flds v) = some x → D = getP ws x) := fun x h => by rw [hD, docP_some _ _ _ x h]
  obtain ⟨L, hL⟩ : ∃ L, L = flds v := ⟨_, rfl⟩
  rw [← hL] at hfi hall hl hrise HDN HDS
  have HA : Hid _ := hall
  have HF : Hid _ := hfi
  have HS : Hid (Rise _) := hrise
  have HI : Hid (ComeAt _) := ih
  have HR : Hid (ReadS _ _ _ _) := hr
  have HT : Hid _ := tailS hr cap hcap
  have hgl := hr.lt
  have X0 := Boxed.start w (.int .i64 v.k) (.int .i64 v.n) (.string v.t) 24
  clear hD hL hall hfi hrise ih hr hf h5
  go_enter Tryz.func182, Tryz.ntmps182
  go_wp2_with fail
  refine (fieldsIn_row v.t L _ (by omega) HF.out).mono ?_
  rintro e w1 ⟨⟨p, fcap, rfl, R1⟩, hb⟩
  have hbw := (X0.step hb).bel
  have n0 := (HR.out.next hbw).cells 0 (by simp)
  rw [Nat.add_zero] at n0
  have n1 : w1.cell? ⟨g, off, none⟩ = some (.string nm) := n0
  have hpos : (0 : Int) < (ws.length : Int) + 1 := by omega
  have HR1 : Hid (RowF _ _ _) := R1
  clear hb n0 R1 X0
  go_wp2_with fail
  refine (fieldPlace_any p fcap L nm _ HR1.out HS.out (by omega)).mono ?_
  rintro e w2 ⟨⟨i, b, rfl, hp⟩, hb⟩
  have hbw2 : Below w.heap.size w w2 := hbw.trans (hb.mono hbw.size)
  have R2 := HR1.out.next hb
  have hz2 := hbw2.size
  have HP : Hid (Place _ _ _ _) := hp
  clear hb hp HR1 n1
  cases b
  · have hDe := HDN.out (Place.none HS.out HP.out)
    clear HP HDN HDS
    go_wp2_with fail
    go_ret
    exact ⟨RowO.nil rfl hDe, hbw2⟩
  · obtain ⟨hi, hname, hfv⟩ := HP.out.some
    rcases R2 with h0 | ⟨gf, rfl, RF⟩
    · subst h0; simp at hi
    have hDe := HDS.out _ hfv
    obtain ⟨x0, x1, x2, x3⟩ := RF.cells i hi
    have hgf := RF.lt
    obtain ⟨⟨xk, xn, xt⟩, hx⟩ : ∃ x : Val, x = L[i].v := ⟨_, rfl⟩
    have hok := HA.out L[i] (List.getElem_mem _)
    rw [← hx] at hok
    have e1 : L[i].v.k = xk := by rw [← hx]
    have e2 : L[i].v.n = xn := by rw [← hx]
    have e3 : L[i].v.t = xt := by rw [← hx]
    rw [e1] at x1
    rw [e2] at x2
    rw [e3] at x3
    rw [← hx] at hDe
    have HDE : Hid _ := hDe
    have HK : Hid _ := hok.1
    have hsx : xt.size ≤ 300 := hok.2.1
    have hi2 : (i : Int) < (L.length : Int) := by omega
    have hrt := HT.out.next hbw2
    have hgc : g < w2.heap.size := by omega
    clear HP HDN HDS hname hfv hok e1 e2 e3 hx x0 RF hDe
    by_cases hc1 : cap - 1 = 0
    · rw [if_pos hc1] at hrt
      have HRT : Hid _ := hrt
      clear hrt
      go_wp2_with fail
      go_region_with (go_at_call 116; refine (HI.out d' ⟨xk, xn, xt⟩ g off _ _ HK.out hsx (by omega) (HRT.out.next (by (repeat (first | (with_reducible exact Below.refl _ _) | (with_reducible assumption) | (with_reducible apply below_drewN) | (with_reducible apply Below.drew) | ((with_reducible refine Below.setCell ?_ ?_ _); rotate_left; focus (first | (simp; done) | (simp; omega) | omega)) | ((with_reducible refine Below.alloc ?_ ?_ _); rotate_left; focus (first | (simp; done) | (simp; omega) | omega))))))).mono ?_; rintro e w3 ⟨hO, hb3⟩; have HO : Hid (RowO _ _ _) := hO; obtain ⟨p3, c3, rfl, _⟩ := hO.row; clear hO)
      all_goals
        have hb4 : Below w.heap.size w w3 := hbw2.trans ((show Below w2.heap.size w2 w3 from (show Below w2.heap.size w2 _ by (repeat (first | (with_reducible exact Below.refl _ _) | (with_reducible assumption) | (with_reducible apply below_drewN) | (with_reducible apply Below.drew) | ((with_reducible refine Below.setCell ?_ ?_ _); rotate_left; focus (first | (simp; done) | (simp; omega) | omega)) | ((with_reducible refine Below.alloc ?_ ?_ _); rotate_left; focus (first | (simp; done) | (simp; omega) | omega))))).trans (hb3.mono (by simp))).mono hz2)
        clear hb3
        go_wp2_with fail
        go_ret
        exact ⟨by rw [HDE.out]; exact HO.out, hb4⟩
    · rw [if_neg hc1] at hrt
      have HRT : Hid _ := hrt
      clear hrt
      go_wp2_with fail
      go_region_with (go_at_call 116; refine (HI.out d' ⟨xk, xn, xt⟩ g (off + 1) _ _ HK.out hsx (by omega) (HRT.out.next (by (repeat (first | (with_reducible exact Below.refl _ _) | (with_reducible assumption) | (with_reducible apply below_drewN) | (with_reducible apply Below.drew) | ((with_reducible refine Below.setCell ?_ ?_ _); rotate_left; focus (first | (simp; done) | (simp; omega) | omega)) | ((with_reducible refine Below.alloc ?_ ?_ _); rotate_left; focus (first | (simp; done) | (simp; omega) | omega))))))).mono ?_; rintro e w3 ⟨hO, hb3⟩; have HO : Hid (RowO _ _ _) := hO; obtain ⟨p3, c3, rfl, _⟩ := hO.row; clear hO)
      all_goals
        have hb4 : Below w.heap.size w w3 := hbw2.trans ((show Below w2.heap.size w2 w3 from (show Below w2.heap.size w2 _ by (repeat (first | (with_reducible exact Below.refl _ _) | (with_reducible assumption) | (with_reducible apply below_drewN) | (with_reducible apply Below.drew) | ((with_reducible refine Below.setCell ?_ ?_ _); rotate_left; focus (first | (simp; done) | (simp; omega) | omega)) | ((with_reducible refine Below.alloc ?_ ?_ _); rotate_left; focus (first | (simp; done) | (simp; omega) | omega))))).trans (hb3.mono (by simp))).mono hz2)
        clear hb3
        go_wp2_with fail
        go_ret
        exact ⟨by rw [HDE.out]; exact HO.out, hb4⟩

end Go.Proofs.YtgjknfbkkfidbaaGreatDoor

/- What the program's way along a path answers, for every right value and all names: through lists, and the whole of it. -/
namespace Go.Proofs.YtgjknfbkkfidbaaGreatDoor
open Go.RowKit
set_option linter.unusedVariables false

set_option maxRecDepth 4000 in
set_option maxHeartbeats 2000000 in
theorem items_come (nm : ByteArray) (ws : List ByteArray) (ih : ComeAt ws) (d : Nat) (v : Val) (g off cap : Nat) (w : World) (h4 : v.k = 4) (hf : fits d v = true) (hr : ReadS w g off (nm :: ws)) (hws : ws.length ≤ 1000) (hcap : ws.length + 1 ≤ cap) :
    Calls Tryz.prog 183 #[.agg #[.int .i64 v.k, .int .i64 v.n, .string v.t], .slice (some ⟨g, off, none⟩) (ws.length + 1) cap] w fun e w' => RowO ((itms v).flatMap (fun it => if it.k = 5 then docP (getP ws) nm it else [])) w' e ∧ Below w.heap.size w w' := by
  obtain ⟨hs, hfi, hl, d', rfl, hall⟩ := list_parts d v hf h4
  have hsum := itms_sum v
  obtain ⟨i0, hi0, hz0, hz1, hz2⟩ := info_parts infoV
  obtain ⟨L, hL⟩ : ∃ L, L = itms v := ⟨_, rfl⟩
  rw [← hL] at hfi hall hl hsum ⊢
  have hsum' : (L.map (fun u => u.t.size)).sum ≤ 300 := Nat.le_trans hsum hs
  have hacc := fun k => Nat.le_trans (accP_len ws nm L k) hsum'
  obtain ⟨D, hD⟩ : ∃ D, D = L.flatMap (fun it => if it.k = 5 then docP (getP ws) nm it else []) := ⟨_, rfl⟩
  rw [← hD]
  have HD : Hid _ := hD
  have HA : Hid _ := hall
  have HF : Hid _ := hfi
  have HI : Hid (ComeAt _) := ih
  have HR : Hid (ReadS _ _ _ _) := hr
  have HACC : Hid _ := hacc
  have X0 := Boxed.start w (.int .i64 v.k) (.int .i64 v.n) (.string v.t) 24
  clear hD hall hfi ih hr hacc hL hf hsum h4
  go_enter Tryz.func183, Tryz.ntmps183
  go_wp2_with fail
  refine (itemsIn_row v.t L _ (by omega) HF.out).mono ?_
  rintro e w1 ⟨⟨p, cap1, rfl, R1⟩, hb⟩
  have hbw := (X0.step hb).bel
  have HBW : Hid _ := hbw
  have HR1 : Hid (RowV _ _ _) := R1
  have hgp : ∀ g1, p = some ⟨g1, 0, none⟩ → 0 < L.length → g1 < w1.heap.size := by
    intro g1 hp hl0
    rcases R1 with h0 | ⟨g2, hp2, R⟩
    · subst h0; simp at hl0
    · rw [hp] at hp2; injection hp2 with hp2; injection hp2 with hp2; subst hp2; exact R.lt
  have HGP : Hid _ := hgp
  clear hb X0 hbw R1 hgp
  go_wp2_with fail
  go_loopw [5, 12] (fun u i wr => ∃ q : Nat, q ≤ L.length ∧ i = .int .i64 q ∧ wr.ownsRow w.heap.size 24 3 u (accP (getP ws) nm L q).length (flat (accP (getP ws) nm L q)) ∧ (∀ k, u.ownBlock = some k → w1.heap.size ≤ k) ∧ RowV wr p L ∧ w1.heap.size ≤ wr.heap.size ∧ Below w.heap.size w wr) (fun _ i _ => L.length - (intOf i).toNat)
  case atStart => exact ⟨0, Nat.zero_le _, rfl, World.ownsRow_nil _ _ _ _, (fun k hk => by cases hk), HR1.out, Nat.le_refl _, HBW.out⟩
  case round =>
    obtain ⟨q, hq, rfl, hown, hown2, hR, hz1w, hbel⟩ := hrel
    have HB2 : Hid _ := hown2
    have hz := hbel.size
    clear hown2
    by_cases hlt : q < L.length
    · rcases hR with h0 | ⟨g1, rfl, R⟩
      · subst h0; simp at hlt
      obtain ⟨x0, x1, x2⟩ := R.cells q hlt
      have hgl := R.lt
      have hg1 := HGP.out g1 rfl (by omega)
      have hlen1 := HACC.out q
      have hlen2 := HACC.out (q + 1)
      have hsucc := accP_succ (getP ws) nm L q hlt
      have hlt2 : (q : Int) < (L.length : Int) := by omega
      by_cases h5 : L[q].k = 5
      · rw [if_pos h5] at hsucc
        have e5 : (L[q].k == 5) = true := by simp [h5]
        have hdl : (docP (getP ws) nm L[q]).length ≤ 300 := by rw [hsucc, List.length_append] at hlen2; omega
        have HS : Hid _ := hsucc
        have H5 : Hid _ := h5
        have hba : Below w.heap.size w (wr.alloc (.cells #[.int .i64 L[q].k, .int .i64 L[q].n, .string L[q].t] 24)) := hbel.alloc hz _
        have HRW : Hid (ReadS _ _ _ _) := HR.out.next hba
        have HRV : Hid (ReadV _ _ _) := R.next ((Below.refl _ _).alloc (Nat.le_refl _) (.cells #[.int .i64 L[q].k, .int .i64 L[q].n, .string L[q].t] 24))
        have HOW : Hid (World.ownsRow _ _ _ _ _ _ _) := hown.alloc (.cells #[.int .i64 L[q].k, .int .i64 L[q].n, .string L[q].t] 24)
        clear hsucc h5 hlen2 R hown
        go_wp2_with fail
        refine (field_come nm ws HI.out d' L[q] g off cap _ H5.out (HA.out L[q] (List.getElem_mem _)).1 HRW.out hws hcap).mono ?_
        rintro e w2 ⟨hO, hb⟩
        have O3 := owns_below HOW.out hb
        have R3 := HRV.out.next hb
        have hb2 : Below w.heap.size w w2 := hba.trans (hb.mono hba.size)
        have hzw := hb2.size
        have hzw1 : w1.heap.size ≤ w2.heap.size := by have := hb.size; simp at this; omega
        clear hb hba
        rcases hO with ⟨rfl, hnil⟩ | ⟨g2, cap2, rfl, R2⟩
        · have hsame : accP (getP ws) nm L (q + 1) = accP (getP ws) nm L q := by rw [HS.out, hnil, List.append_nil]
          have HSA : Hid _ := hsame
          clear hnil hsame HS hdl
          go_wp2_with (at_builtin; refine wpList_append_own_none rfl (.tmp 19) (.tmp 22) 34 rfl w.heap.size 24 i0 3 Tryz.underlying34 hi0 _ _ _ rfl O3 rfl ?_)
          have HO3 : Hid (World.ownsRow _ _ _ _ _ _ _) := O3
          have HR3 : Hid (ReadV _ _ _) := R3
          clear O3 R3
          go_wp2_with fail
          go_roundw
          case rel => exact ⟨q + 1, by omega, by go_num, by rw [HSA.out]; exact HO3.out, HB2.out, .inr ⟨g1, rfl, HR3.out⟩, hzw1, hb2⟩
          case measure => simp [intOf]; omega
        · go_wp2_with (at_builtin; refine wpList_append_own_at _ rfl (.tmp 19) (.tmp 22) 34 rfl w.heap.size 24 i0 (.agg #[.int .i64 0, .int .i64 0, .string em]) 3 32 Tryz.underlying34 hi0 hz0 hz1 hz2 rfl (by decide) _ _ _ rfl O3 ⟨g2, 0, none⟩ (docP (getP ws) nm L[q]).length cap2 (flat (docP (getP ws) nm L[q])) rfl (flat_len _) R2.flat (flat_one _) ?c3 ?c4 hzw ?_)
          case c3 => unfold maxLen; omega
          case c4 => omega
          intro v' w3 hown4 hgrow hnv hat
          have hne : ∀ k, v'.ownBlock = some k → w1.heap.size ≤ k := by
            intro k hk
            rcases hat with e | e
            · exact HB2.out k (e ▸ hk)
            · rw [e] at hk; injection hk with hk; omega
          have R4 := R3.grown hgrow (fun e => by have := HB2.out g1 e.symm; omega)
          have hb4 : Below w.heap.size w w3 := Below.grown hb2 hgrow hzw (owns_block O3)
          have hz4 := hgrow.size
          rw [← flat_app, ← List.length_append, ← HS.out] at hown4
          have HO4 : Hid (World.ownsRow _ _ _ _ _ _ _) := hown4
          have HNE : Hid _ := hne
          have HR4 : Hid (ReadV _ _ _) := R4
          clear hgrow hat hown4 hne R4 R3 O3 R2 hnv
          go_wp2_with fail
          go_roundw
          case rel => exact ⟨q + 1, by omega, by go_num, HO4.out, HNE.out, .inr ⟨g1, rfl, HR4.out⟩, by omega, hb4⟩
          case measure => simp [intOf]; omega
      · rw [if_neg h5, List.append_nil] at hsucc
        have e5 : (L[q].k == 5) = false := beq_eq_false_iff_ne.mpr h5
        have HS : Hid _ := hsucc
        have HRV : Hid (ReadV _ _ _) := R.next ((Below.refl _ _).alloc (Nat.le_refl _) (.cells #[.int .i64 L[q].k, .int .i64 L[q].n, .string L[q].t] 24))
        have HOW : Hid (World.ownsRow _ _ _ _ _ _ _) := hown.alloc (.cells #[.int .i64 L[q].k, .int .i64 L[q].n, .string L[q].t] 24)
        clear hsucc h5 R hown
        go_wp2_with fail
        go_roundw
        case rel => exact ⟨q + 1, by omega, by go_num, by rw [HS.out]; exact HOW.out, HB2.out, .inr ⟨g1, rfl, HRV.out⟩, by simp; omega, by (repeat (first | (with_reducible exact Below.refl _ _) | (with_reducible assumption) | (with_reducible apply below_drewN) | (with_reducible apply Below.drew) | ((with_reducible refine Below.setCell ?_ ?_ _); rotate_left; focus (first | (simp; done) | (simp; omega) | omega)) | ((with_reducible refine Below.alloc ?_ ?_ _); rotate_left; focus (first | (simp; done) | (simp; omega) | omega))))⟩
        case measure => simp [intOf]; omega
    · have hlt2 : ¬ (q : Int) < (L.length : Int) := by omega
      rw [accP_full _ _ _ _ (by omega), ← HD.out] at hown
      by_cases hn : u5 = .slice none 0 0
      · subst hn
        have hd0 : D = [] := by
          obtain ⟨_, h2⟩ := hown
          rcases h2 with ⟨_, h3⟩ | ⟨g', c', cur, e, _⟩
          · exact List.eq_nil_of_length_eq_zero (by simpa using h3)
          · cases e
        have HD0 : Hid _ := hd0
        clear hown HB2 hR hd0
        go_wp2_with fail
        go_ret
        exact ⟨RowO.nil rfl HD0.out, hbel⟩
      · obtain ⟨g3, cap3, hv⟩ := owns_shape hown hn
        subst hv
        have R := ReadV.of_own hown
        have HR5 : Hid (ReadV _ _ _) := R
        clear R hown HB2 hn hR
        go_wp2_with fail
        go_ret
        exact ⟨RowO.mk g3 cap3 rfl HR5.out, hbel⟩

set_option maxRecDepth 4000 in
set_option maxHeartbeats 1000000 in
theorem come_cons (nm : ByteArray) (ws : List ByteArray) (ih : ComeAt ws) (hws : ws.length ≤ 1000) : ComeAt (nm :: ws) := by
  intro d v g off cap w hf hs hcap hr
  rw [List.length_cons] at hcap ⊢
  have X0 := Boxed.start w (.int .i64 v.k) (.int .i64 v.n) (.string v.t) 24
  have HR : Hid (ReadS _ _ _ _) := hr.next X0.bel
  have hnz : (((ws.length : Int) + 1) == 0) = false := beq_eq_false_iff_ne.mpr (by omega)
  clear hr
  by_cases h5 : v.k = 5
  · rw [getP_doc nm ws v h5]
    have e5 : (v.k == 5) = true := by simp [h5]
    have HC : Hid (∀ W : World, ReadS W g off (nm :: ws) → Calls _ _ _ W _) := fun W hW => field_come nm ws ih d v g off cap W h5 hf hW hws hcap
    obtain ⟨D, hD⟩ : ∃ D, D = docP (getP ws) nm v := ⟨_, rfl⟩
    rw [← hD] at HC ⊢
    clear hf h5 hD
    go_enter Tryz.func116, Tryz.ntmps116
    go_wp2_with fail
    refine (HC.out _ HR.out).mono ?_
    rintro e w1 ⟨hO, hb⟩
    have HB : Hid _ := (X0.step hb).bel
    have HO : Hid (RowO _ _ _) := hO
    obtain ⟨p, c, rfl, _⟩ := hO.row
    clear hb hO
    go_wp2_with fail
    go_ret
    exact ⟨HO.out, HB.out⟩
  have e5 : (v.k == 5) = false := beq_eq_false_iff_ne.mpr h5
  by_cases h4 : v.k = 4
  · rw [getP_list nm ws v h4]
    have e4 : (v.k == 4) = true := by simp [h4]
    have HC : Hid (∀ W : World, ReadS W g off (nm :: ws) → Calls _ _ _ W _) := fun W hW => items_come nm ws ih d v g off cap W h4 hf hW hws hcap
    obtain ⟨D, hD⟩ : ∃ D, D = (itms v).flatMap (fun it => if it.k = 5 then docP (getP ws) nm it else []) := ⟨_, rfl⟩
    rw [← hD] at HC ⊢
    clear hf h4 hD
    go_enter Tryz.func116, Tryz.ntmps116
    go_wp2_with fail
    refine (HC.out _ HR.out).mono ?_
    rintro e w1 ⟨hO, hb⟩
    have HB : Hid _ := (X0.step hb).bel
    have HO : Hid (RowO _ _ _) := hO
    obtain ⟨p, c, rfl, _⟩ := hO.row
    clear hb hO
    go_wp2_with fail
    go_ret
    exact ⟨HO.out, HB.out⟩
  rw [getP_none nm ws v h5 h4]
  have e4 : (v.k == 4) = false := beq_eq_false_iff_ne.mpr h4
  clear hf
  go_enter Tryz.func116, Tryz.ntmps116
  go_wp2_with fail
  go_ret
  exact ⟨RowO.nil rfl rfl, X0.bel⟩
theorem come_at : ∀ ws : List ByteArray, ws.length ≤ 1000 → ComeAt ws
  | [], _ => come_end
  | nm :: ws, h => come_cons nm ws (come_at ws (by simp at h; omega)) (by simp at h; omega)

end Go.Proofs.YtgjknfbkkfidbaaGreatDoor
