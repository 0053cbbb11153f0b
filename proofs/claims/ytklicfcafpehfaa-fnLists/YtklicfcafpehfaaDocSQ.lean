/- What the specification's DocOf answers, for every row of fields. -/
import Derived.Test.YtklicfcafpehfaaDocIQ
namespace Go.Proofs.Ytklicfcafpehfaa
open Go.RowKit
set_option linter.unusedVariables false

set_option maxRecDepth 4000 in
set_option maxHeartbeats 1000000 in
theorem specDoc_long (g cap : Nat) (l : List Fld) (w : World) (hl : l.length ≤ 1048576) (h : 4096 < l.length) :
    Calls Try.prog 22 #[.slice (some ⟨g, 0, none⟩) l.length cap] w fun e w' => e = .returned (.tuple #[.agg #[.int .i64 0, .int .i64 0, .string em], .int .i64 2]) ∧ Below w.heap.size w w' := by
  have hh : (4096 : Int) < (l.length : Int) := by omega
  go_enter Try.func22, Try.ntmps22
  go_wp2_with fail
  refine bodyPost_ret (v := .tuple #[.agg #[.int .i64 0, .int .i64 0, .string em], .int .i64 2]) (by simp [results, Try.results22, go_sem, *]) rfl ⟨rfl, ?_⟩
  (repeat (first | (with_reducible exact Below.refl _ _) | (with_reducible assumption) | (with_reducible apply below_drewN) | (with_reducible apply Below.drew) | ((with_reducible refine Below.setCell ?_ ?_ _); rotate_left; focus (first | (simp; done) | (simp; omega) | omega)) | ((with_reducible refine Below.alloc ?_ ?_ _); rotate_left; focus (first | (simp; done) | (simp; omega) | omega))))
set_option maxRecDepth 4000 in
set_option maxHeartbeats 1000000 in
theorem specDoc_many (g cap : Nat) (l : List Fld) (w : World) (h : ¬ 4096 < l.length) (h2 : 300 < l.length) :
    Calls Try.prog 22 #[.slice (some ⟨g, 0, none⟩) l.length cap] w fun e w' => e = .returned (.tuple #[.agg #[.int .i64 0, .int .i64 0, .string em], .int .i64 10]) ∧ Below w.heap.size w w' := by
  have hh : ¬ (4096 : Int) < (l.length : Int) := by omega
  have hh2 : (300 : Int) < (l.length : Int) := by omega
  go_enter Try.func22, Try.ntmps22
  go_wp2_with fail
  refine bodyPost_ret (v := .tuple #[.agg #[.int .i64 0, .int .i64 0, .string em], .int .i64 10]) (by simp [results, Try.results22, go_sem, *]) rfl ⟨rfl, ?_⟩
  (repeat (first | (with_reducible exact Below.refl _ _) | (with_reducible assumption) | (with_reducible apply below_drewN) | (with_reducible apply Below.drew) | ((with_reducible refine Below.setCell ?_ ?_ _); rotate_left; focus (first | (simp; done) | (simp; omega) | omega)) | ((with_reducible refine Below.alloc ?_ ?_ _); rotate_left; focus (first | (simp; done) | (simp; omega) | omega))))

/-- The result that a fold of fields leads to. -/
def EndsD (w : World) (r : Except Int (List Fld)) (e : Ending) (w' : World) : Prop := e = .returned (.tuple #[aggV (foldP r).1, .int .i64 (foldP r).2]) ∧ Below w.heap.size w w'
theorem EndsD.err {w : World} {r : Except Int (List Fld)} {e : Ending} {w' : World} (c : Int) (hr : r = .error c) (h : e = .returned (.tuple #[.agg #[.int .i64 0, .int .i64 0, .string em], .int .i64 c])) (hb : Below w.heap.size w w') : EndsD w r e w' := by subst hr; exact ⟨h, hb⟩
theorem EndsD.ok {w : World} {r : Except Int (List Fld)} {e : Ending} {w' : World} (s : List Fld) (hr : r = .ok s) (h : e = .returned (.tuple #[aggV (fitD s).1, .int .i64 (fitD s).2])) (hb : Below w.heap.size w w') : EndsD w r e w' := by subst hr; exact ⟨h, hb⟩
theorem liesF_grow2 {W w1 : World} {r : Option Nat} {vb b : Nat} {f : Fld} (hg : W.grownBy w1 r) (hr : r = some b) (h : LiesF W vb f) (hne : vb ≠ b) : LiesF w1 vb f := by subst hr; exact liesF_grown h hg hne
theorem own_some {w : World} {base : Nat} {v : Value} {l : List Fld} (h : w.ownsRow base 36 4 v l.length (flatF l)) (hn : ¬ v = .slice none 0 0) : ∃ g c, v = .slice (some ⟨g, 0, none⟩) l.length c ∧ l.length ≤ c ∧ c ≤ maxLen ∧ base ≤ g ∧ g < w.heap.size := by
  rcases h.2 with ⟨h0, _⟩ | ⟨g, cap, cur, rfl, hb, hh, h4, h5, _⟩
  · exact absurd h0 hn
  · exact ⟨g, cap, rfl, h4, h5, hb, (h.lt g rfl).2⟩

set_option maxRecDepth 8000 in
set_option maxHeartbeats 8000000 in
theorem specDoc_few (g cap : Nat) (l : List Fld) (w : World) (hr : ReadF w g l) (h2 : ¬ 300 < l.length) (hts : ∀ f ∈ l, f.name.size ≤ 1048576 ∧ f.v.t.size ≤ 1048576) :
    Calls Try.prog 22 #[.slice (some ⟨g, 0, none⟩) l.length cap] w fun e w' => EndsD w (foldD [] l) e w' := by
  have hh : ¬ (4096 : Int) < (l.length : Int) := by omega
  have hh2 : ¬ (300 : Int) < (l.length : Int) := by omega
  have hl : l.length ≤ 300 := by omega
  have X0 := Res3.start w (.int .i64 0) (.int .i64 0) (.string em) 27
  have HX : Hid (Res3 _ _ _ _ _) := X0
  obtain ⟨w0, hw0⟩ : ∃ w0, w0 = w.alloc (.cells #[.int .i64 0, .int .i64 0, .string em] 27) := ⟨_, rfl⟩
  have O0 := World.ownsRow_made (base := w0.heap.size) (size := 4) (e := 36) (w.alloc (.cells #[.int .i64 0, .int .i64 0, .string em] 27)) #[] 0 (by rw [hw0]; exact Nat.le_refl _) (by unfold maxLen; omega) rfl
  rw [← hw0] at HX
  have B0 : Below w0.heap.size w0 (w0.alloc (.cells #[] 36)) := (Below.refl _ _).alloc (Nat.le_refl _) _
  rw [hw0] at B0
  simp only [heap_size_alloc] at O0
  have HO0 : Hid (World.ownsRow _ _ _ _ _ _ _) := O0
  have HB0 : Hid (Below _ _ _) := B0
  have HW : Hid _ := hw0
  have HR : Hid (ReadF _ _ _) := hr
  have HT : Hid _ := hts
  clear hr hts X0 O0 B0
  go_enter Try.func22, Try.ntmps22
  go_wp2_with fail
  clear hw0
  go_loopw [4, 5] (fun u i wr => ∃ (k : Nat) (acc : List Fld), k ≤ l.length ∧ i = .int .i64 k ∧ acc.length = k ∧ GoodF acc ∧ foldD [] l = foldD acc (l.drop k) ∧ wr.ownsRow w0.heap.size 36 4 u acc.length (flatF acc) ∧ (¬ u = .slice none 0 0) ∧ Below w0.heap.size w0 wr) (fun _ i _ => l.length - (intOf i).toNat)
  case atStart => exact ⟨0, [], Nat.zero_le _, rfl, rfl, GoodF.nil, rfl, HO0.out, by simp, by rw [HW.out]; exact HB0.out⟩
  case round =>
    obtain ⟨k, acc, hk, rfl, hal, hga, hfold, hown, hnn, hbel⟩ := hrel
    have hz := hbel.size
    have hac : acc.length ≤ 300 := by omega
    have HAL : Hid (acc.length = k) := hal
    have HO : Hid (World.ownsRow _ _ _ _ _ _ _) := hown
    obtain ⟨gO, c, rfl, hc1, hc2, hg1, hg2⟩ := own_some hown hnn
    have HG : Hid (GoodF _) := hga
    have HF : Hid (_ = _) := hfold
    have X1 := HX.out.step hbel
    have HX1 : Hid (Res3 _ _ _ _ _) := X1
    have hz0 := HX.out.lt
    unfold maxLen at hc2
    clear hown hga hfold hal hnn X1 HO0 HB0
    by_cases hlt : k < l.length
    · have R := HR.out.next HX1.out.bel
      obtain ⟨x0, x1, x2, x3⟩ := R.cells k hlt
      have hgl := R.lt
      have ht := HT.out l[k] (List.getElem_mem _)
      have hns : l[k].name.size ≤ maxLen := by unfold maxLen; omega
      have hvs : l[k].v.t.size ≤ 1048576 := ht.2
      have F0 := FB.start wr l[k] 36
      have A0 : Below wr.heap.size wr (wr.alloc (.cells #[.string l[k].name, .int .i64 l[k].v.k, .int .i64 l[k].v.n, .string l[k].v.t] 36)) := (Below.refl _ _).alloc (Nat.le_refl _) _
      have HA0 : Hid (Below _ _ _) := A0
      have HF0 : Hid (FB _ _ _) := F0
      clear R ht F0 A0
      cases hs : shortB l[k].name
      · have E : Hid (_ = _) := HF.out.trans (foldD_name acc l k hlt hs)
        have HS : Hid (_ = _) := hs
        have Y := HX1.out.step HA0.out
        have g0 := Y.c0
        have g1 := Y.c1
        have g2 := Y.c2
        have z0 := Y.z0
        have z1 := Y.z1
        have z2 := Y.z2
        have hltY := Y.lt
        have hbw := Y.bel
        clear hs Y
        go_wp2_with fail
        refine (l01Name_any _ _ hns).mono ?_
        rintro e w1 ⟨rfl, rfl⟩
        rw [HS.out]
        go_wp2_with fail
        refine bodyPost_ret (v := .tuple #[.agg #[.int .i64 0, .int .i64 0, .string em], .int .i64 11]) (by simp [results, Try.results22, go_sem, *]) rfl (EndsD.err 11 E.out rfl ?_)
        (repeat (first | (with_reducible exact Below.refl _ _) | (with_reducible assumption) | (with_reducible apply below_drewN) | (with_reducible apply Below.drew) | ((with_reducible refine Below.setCell ?_ ?_ _); rotate_left; focus (first | (simp; done) | (simp; omega) | omega)) | ((with_reducible refine Below.alloc ?_ ?_ _); rotate_left; focus (first | (simp; done) | (simp; omega) | omega))))
      · cases ho : okB l[k].v
        · have E : Hid (_ = _) := HF.out.trans (foldD_bad acc l k hlt hs ho)
          have HS : Hid (_ = _) := hs
          have HV : Hid (okB ⟨l[k].v.k, l[k].v.n, l[k].v.t⟩ = false) := ho
          clear hs ho
          go_wp2_with fail
          refine (l01Name_any _ _ hns).mono ?_
          rintro e w1 ⟨rfl, rfl⟩
          rw [HS.out]
          go_wp2_with fail
          refine (specValueOK_any _ _ _ _ hvs).mono ?_
          rintro e w1 ⟨rfl, hb1⟩
          rw [HV.out]
          have Y := (HX1.out.step HA0.out).step hb1
          have g0 := Y.c0
          have g1 := Y.c1
          have g2 := Y.c2
          have z0 := Y.z0
          have z1 := Y.z1
          have z2 := Y.z2
          have hltY := Y.lt
          have hbw := Y.bel
          clear Y hb1
          go_wp2_with fail
          refine bodyPost_ret (v := .tuple #[.agg #[.int .i64 0, .int .i64 0, .string em], .int .i64 1]) (by simp [results, Try.results22, go_sem, *]) rfl (EndsD.err 1 E.out rfl ?_)
          (repeat (first | (with_reducible exact Below.refl _ _) | (with_reducible assumption) | (with_reducible apply below_drewN) | (with_reducible apply Below.drew) | ((with_reducible refine Below.setCell ?_ ?_ _); rotate_left; focus (first | (simp; done) | (simp; omega) | omega)) | ((with_reducible refine Below.alloc ?_ ?_ _); rotate_left; focus (first | (simp; done) | (simp; omega) | omega))))
        · have HS : Hid (_ = _) := hs
          have HV : Hid (okB ⟨l[k].v.k, l[k].v.n, l[k].v.t⟩ = true) := ho
          clear hs ho
          go_wp2_with fail
          refine (l01Name_any _ _ hns).mono ?_
          rintro e w1 ⟨rfl, rfl⟩
          rw [HS.out]
          go_wp2_with fail
          refine (specValueOK_any _ _ _ _ hvs).mono ?_
          rintro e w1 ⟨rfl, hb1⟩
          rw [HV.out]
          have HF1 : Hid (FB _ _ _) := HF0.out.next hb1
          have A1 : Below wr.heap.size wr w1 := HA0.out.trans (hb1.mono HA0.out.size)
          have HX2 : Hid (Res3 _ _ _ _ _) := HX1.out.step A1
          have HO1 : Hid (World.ownsRow _ _ _ _ _ _ _) := owns_below HO.out A1
          have HB1 : Hid (Below w0.heap.size w0 w1) := hbel.trans (A1.mono hz)
          have hzw := A1.size
          clear hb1 A1 x0 x1 x2 x3 HX1 HO HF0 HA0
          go_wp2_with fail
          go_loopw [7] (fun i W => ∃ j : Nat, j ≤ acc.length ∧ i = .int .i64 j ∧ (∀ q (h : q < acc.length), j ≤ q → ltB l[k].name acc[q].name = true) ∧ Below w1.heap.size w1 W) (fun i _ => (intOf i).toNat)
          case atStart => exact ⟨acc.length, Nat.le_refl _, rfl, fun q h h2 => absurd h2 (by omega), Below.refl _ _⟩
          case round =>
            obtain ⟨j, hj, rfl, hhi, hbj⟩ := hrel
            have HH : Hid _ := hhi
            have F2 := HF1.out.next hbj
            have d0 := F2.c0
            have hd0 := F2.lt
            have HF2 : Hid (FB _ _ _) := F2
            have HO2 : Hid (World.ownsRow _ _ _ _ _ _ _) := owns_below HO1.out hbj
            have RO := ReadF.of_own HO2.out
            have hgo2 := RO.lt
            clear hhi F2
            by_cases hj0 : 0 < j
            · have hj1 : j - 1 < acc.length := by omega
              have y0 := (RO.cells (j - 1) hj1).1
              have hi0 : (0 : Int) < (j : Int) := by omega
              have hi1 : (0 : Int) ≤ (j : Int) - 1 := by omega
              have hi2 : (j : Int) - 1 < (acc.length : Int) := by omega
              have hi3 : IntKind.i64.wrap ((j : Int) - 1) = (j : Int) - 1 := by rw [IntKind.wrap_i64]; omega
              have hi4 : ((j : Int) - 1).toNat = j - 1 := by omega
              have hgo := RO.lt
              clear RO
              cases hc : ltB l[k].name acc[j - 1].name
              · have HC : Hid (_ = _) := hc
                clear hc
                by_cases heq : acc[j - 1].name = l[k].name
                · have E : Hid (_ = _) := HF.out.trans (foldD_twice acc l k hlt HS.out HV.out (hasN_true _ (List.getElem_mem hj1) heq))
                  have Y := HX2.out.step hbj
                  have g0 := Y.c0
                  have g1 := Y.c1
                  have g2 := Y.c2
                  have z0 := Y.z0
                  have z1 := Y.z1
                  have z2 := Y.z2
                  have hltY := Y.lt
                  have hbw := Y.bel
                  have heq2 : (acc[j - 1].name.toList == l[k].name.toList) = true := (eqL _ _).mpr heq
                  have hc3 : Op.bytesLess acc[j - 1].name.toList l[k].name.toList = false := by rw [heq]; exact ltB_irrefl _
                  clear Y
                  go_wp2_with fail
                  go_quiet (fail)
                  go_wp2_with fail
                  go_quiet (fail)
                  go_wp2_with fail
                  refine bodyPost_ret (v := .tuple #[.agg #[.int .i64 0, .int .i64 0, .string em], .int .i64 12]) (by simp [results, Try.results22, go_sem, *]) rfl (EndsD.err 12 E.out rfl ?_)
                  (repeat (first | (with_reducible exact Below.refl _ _) | (with_reducible assumption) | (with_reducible apply below_drewN) | (with_reducible apply Below.drew) | ((with_reducible refine Below.setCell ?_ ?_ _); rotate_left; focus (first | (simp; done) | (simp; omega) | omega)) | ((with_reducible refine Below.alloc ?_ ?_ _); rotate_left; focus (first | (simp; done) | (simp; omega) | omega))))
                · have HP : Hid (Place acc l[k].name j false) := Place.back HG.out.rise hj HH.out (fun i h e => by
                    obtain rfl : i = j - 1 := by omega
                    exact ltB_of HC.out (fun e => heq e.symm))
                  have heq2 : (acc[j - 1].name.toList == l[k].name.toList) = false := eqL_false _ _ heq
                  have hc3 : Op.bytesLess acc[j - 1].name.toList l[k].name.toList = true := ltB_of HC.out (fun e => heq e.symm)
                  go_wp2_with fail
                  go_quiet (fail)
                  go_wp2_with fail
                  go_quiet (fail)
                  go_wp2_with fail
                  generalize hW : World.drewN (World.drewN wr _) _ = wx
                  have BX : Below wr.heap.size wr wx := by rw [← hW]; exact below_drewN (below_drewN (Below.refl _ _) _) _
                  have F3 := HF2.out.next BX
                  have e0 := F3.c0
                  have e1 := F3.c1
                  have e2 := F3.c2
                  have e3 := F3.c3
                  have he := F3.lt
                  have hzx := BX.size
                  have O3 := owns_below HO2.out BX
                  have HSRC : Hid (SrcF wx gO acc) := SrcF.of_own O3
                  have hgx : gO < wx.heap.size := Nat.lt_of_lt_of_le hgo2 BX.size
                  have HY : Hid (Res3 w wx (.int .i64 0) (.int .i64 0) (.string em)) := (HX2.out.step hbj).step BX
                  have HBX : Hid (Below w0.heap.size w0 wx) := (HB1.out.trans (hbj.mono HB1.out.size)).trans (BX.mono (Nat.le_trans HB1.out.size hbj.size))
                  have hzb := HBX.out.size
                  have OA := World.ownsRow_made (base := wx.heap.size) (size := 4) (e := 36) wx #[] 0 (Nat.le_refl _) (by unfold maxLen; omega) rfl
                  have OB := OA.alloc (.cells #[.string l[k].name, .int .i64 l[k].v.k, .int .i64 l[k].v.n, .string l[k].v.t] 36)
                  have OC := World.ownsRow_made (base := wx.heap.size) (size := 4) (e := 36) (wx.alloc (.cells #[.string l[k].name, .int .i64 l[k].v.k, .int .i64 l[k].v.n, .string l[k].v.t] 36)) #[] 0 (by simp) (by unfold maxLen; omega) rfl
                  have LB : LiesF ((wx.alloc (.cells #[] 36)).alloc (.cells #[.string l[k].name, .int .i64 l[k].v.k, .int .i64 l[k].v.n, .string l[k].v.t] 36)) (wx.heap.size + 1) l[k] := by have := heap_alloc_new (wx.alloc (.cells #[] 36)) (.cells #[.string l[k].name, .int .i64 l[k].v.k, .int .i64 l[k].v.n, .string l[k].v.t] 36); rw [heap_size_alloc] at this; exact this
                  have LC : LiesF ((wx.alloc (.cells #[.string l[k].name, .int .i64 l[k].v.k, .int .i64 l[k].v.n, .string l[k].v.t] 36)).alloc (.cells #[] 36)) wx.heap.size l[k] := by rw [LiesF, heap_alloc_old _ _ (by simp)]; exact heap_alloc_new _ _
                  simp only [heap_size_alloc] at OC
                  have HOA : Hid (World.ownsRow _ _ _ _ _ _ _) := OA
                  have HOB : Hid (World.ownsRow _ _ _ _ _ _ _) := OB
                  have HOC : Hid (World.ownsRow _ _ _ _ _ _ _) := OC
                  have HLB : Hid (LiesF _ _ _) := LB
                  have HLC : Hid (LiesF _ _ _) := LC
                  have hk1 : (j : Int) ≤ (acc.length : Int) := by omega
                  have hk2 : (j : Int) ≤ (c : Int) := by omega
                  have HF3 : Hid (FB wx _ l[k]) := F3
                  have HF4 : Hid (_ = _) := HF.out.trans (foldD_next acc l k j hlt HS.out HV.out HG.out.rise HP.out)
                  clear hW BX F3 O3 OA OB OC LB LC
                  by_cases hcj : c = j
                  all_goals
                    go_region_law (first
                      | (refine step_appF rfl (.tmp 68) (.tmp 71) rfl wx.heap.size 0 _ [] rfl (by first | exact HOA.out | exact HOB.out | exact HOC.out) ⟨gO, 0, none⟩ j _ (flatF (acc.take j)) rfl (by rw [flatF_len, List.length_take]; omega) (srcT HSRC.out hgx hj (by (repeat (first | (with_reducible exact Below.refl _ _) | (with_reducible assumption) | (with_reducible apply below_drewN) | (with_reducible apply Below.drew) | ((with_reducible refine Below.setCell ?_ ?_ _); rotate_left; focus (first | (simp; done) | (simp; omega) | omega)) | ((with_reducible refine Below.alloc ?_ ?_ _); rotate_left; focus (first | (simp; done) | (simp; omega) | omega)))))) (flatF_one _) (by omega) (by omega) (by first | (simp; done) | (simp; omega)) ?_; intro v1 w1' o1 g1 n1; have b1 : Below wx.heap.size wx w1' := Below.grown (by (repeat (first | (with_reducible exact Below.refl _ _) | (with_reducible assumption) | (with_reducible apply below_drewN) | (with_reducible apply Below.drew) | ((with_reducible refine Below.setCell ?_ ?_ _); rotate_left; focus (first | (simp; done) | (simp; omega) | omega)) | ((with_reducible refine Below.alloc ?_ ?_ _); rotate_left; focus (first | (simp; done) | (simp; omega) | omega))))) g1 (by first | (simp; done) | (simp; omega)) (fun q hq => by first | exact (HOA.out.lt q hq).1 | exact (HOB.out.lt q hq).1 | exact (HOC.out.lt q hq).1); have hz1 := b1.size; have F4 := HF3.out.next b1; have f0 := F4.c0; have f1 := F4.c1; have f2 := F4.c2; have f3 := F4.c3; have hf4 := F4.lt; (first | have L1 : Hid (LiesF w1' _ l[k]) := liesF_grow2 (b := wx.heap.size) (vb := wx.heap.size + 1) g1 rfl HLB.out (by omega) | have L1 : Hid (LiesF w1' _ l[k]) := liesF_grow2 (b := wx.heap.size + 1) (vb := wx.heap.size) g1 rfl HLC.out (by omega) | skip); have H1 : Hid (World.ownsRow _ _ _ _ _ _ _) := o1; have HB2 : Hid (Below _ _ _) := b1; clear o1 g1 n1 b1 F4)
                      | (refine step_appF rfl (.tmp 72) (.tmp 74) rfl wx.heap.size (0 + j) v1 ([] ++ flatF (acc.take j)) rfl (by first | exact H1.out | exact H1.out.alloc _) _ 1 1 (rowF l[k]) rfl rfl (by first | exact liesF_cells (heap_alloc_new _ _) | exact liesF_cells L1.out) (rowF_one _) (by omega) (by omega) (by first | exact hz1 | (simp; omega)) ?_; intro v2 w2' o2 g2 n2; have b2 : Below wx.heap.size wx w2' := Below.grown (by first | exact HB2.out | exact HB2.out.alloc hz1 _) g2 (by first | exact hz1 | (simp; omega)) (fun q hq => (H1.out.lt q hq).1); have hz2 := b2.size; have H2 : Hid (World.ownsRow _ _ _ _ _ _ _) := o2; have HB3 : Hid (Below _ _ _) := b2; have N2 : Hid (¬ v2 = .slice none 0 0) := (fun h => absurd (n2.mp h).2 (by decide)); clear o2 g2 n2 b2)
                      | (refine step_appF rfl (.tmp 75) (.tmp 78) rfl wx.heap.size (0 + j + 1) v2 ([] ++ flatF (acc.take j) ++ rowF l[k]) rfl H2.out _ (acc.length - j) _ (flatF (acc.drop j)) rfl (by rw [flatF_len, List.length_drop]) (by first | exact srcD HSRC.out hgx hj HB3.out | (intro p u hp; rw [List.drop_of_length_le (by omega)] at hp; simp [flatF] at hp)) (flatF_one _) (by omega) (by omega) hz2 ?_; intro v3 w3' o3 g3 n3; have b3 : Below wx.heap.size wx w3' := Below.grown HB3.out g3 hz2 (fun q hq => (H2.out.lt q hq).1); have H3 : Hid (World.ownsRow _ _ _ _ _ _ _) := row3 hj o3; have HB4 : Hid (Below _ _ _) := b3; have N3 : Hid (¬ v3 = .slice none 0 0) := (fun h => N2.out (n3.mp h).1); clear o3 g3 n3 b3))
                    all_goals
                      go_wp2_with fail
                      go_roundw
                      case rel => exact ⟨k + 1, insL acc j l[k], by omega, by go_num, by rw [insL_len _ _ _ hj, HAL.out], HG.out.ins HS.out HV.out HP.out, HF4.out, owns_base H3.out hzb, N3.out, HBX.out.trans (HB4.out.mono hzb)⟩
                      case measure => simp [intOf]; omega
              · have hc3 : Op.bytesLess acc[j - 1].name.toList l[k].name.toList = false := ltB_asym hc
                have hc5 : acc[j - 1].name ≠ l[k].name := fun e => by rw [e, ltB_irrefl] at hc; cases hc
                have hc4 : (acc[j - 1].name.toList == l[k].name.toList) = false := eqL_false _ _ hc5
                have HC : Hid (_ = _) := hc
                clear hc
                go_wp2_with fail
                go_quiet (fail)
                go_wp2_with fail
                go_roundw
                case rel =>
                  refine ⟨j - 1, by omega, congrArg (Value.int .i64) (by omega), ?_, by (repeat (first | (with_reducible exact Below.refl _ _) | (with_reducible assumption) | (with_reducible apply below_drewN) | (with_reducible apply Below.drew) | ((with_reducible refine Below.setCell ?_ ?_ _); rotate_left; focus (first | (simp; done) | (simp; omega) | omega)) | ((with_reducible refine Below.alloc ?_ ?_ _); rotate_left; focus (first | (simp; done) | (simp; omega) | omega))))⟩
                  intro q hq hge
                  rcases Nat.lt_or_ge q j with h | h
                  · obtain rfl : q = j - 1 := by omega
                    exact HC.out
                  · exact HH.out q hq h
                case measure => simp [intOf]; omega
            · have hi0 : ¬ (0 : Int) < (j : Int) := by omega
              have hi1 : decide ((0 : Int) < (j : Int)) = false := decide_eq_false hi0
              have HP : Hid (Place acc l[k].name j false) := Place.back HG.out.rise hj HH.out (fun i h e => by omega)
              clear RO
              go_wp2_with fail
              go_quiet (fail)
              go_wp2_with fail
              go_quiet (fail)
              go_wp2_with fail
              generalize hW : World.drewN (World.drewN wr _) _ = wx
              have BX : Below wr.heap.size wr wx := by rw [← hW]; exact below_drewN (below_drewN (Below.refl _ _) _) _
              have F3 := HF2.out.next BX
              have e0 := F3.c0
              have e1 := F3.c1
              have e2 := F3.c2
              have e3 := F3.c3
              have he := F3.lt
              have hzx := BX.size
              have O3 := owns_below HO2.out BX
              have HSRC : Hid (SrcF wx gO acc) := SrcF.of_own O3
              have hgx : gO < wx.heap.size := Nat.lt_of_lt_of_le hgo2 BX.size
              have HY : Hid (Res3 w wx (.int .i64 0) (.int .i64 0) (.string em)) := (HX2.out.step hbj).step BX
              have HBX : Hid (Below w0.heap.size w0 wx) := (HB1.out.trans (hbj.mono HB1.out.size)).trans (BX.mono (Nat.le_trans HB1.out.size hbj.size))
              have hzb := HBX.out.size
              have OA := World.ownsRow_made (base := wx.heap.size) (size := 4) (e := 36) wx #[] 0 (Nat.le_refl _) (by unfold maxLen; omega) rfl
              have OB := OA.alloc (.cells #[.string l[k].name, .int .i64 l[k].v.k, .int .i64 l[k].v.n, .string l[k].v.t] 36)
              have OC := World.ownsRow_made (base := wx.heap.size) (size := 4) (e := 36) (wx.alloc (.cells #[.string l[k].name, .int .i64 l[k].v.k, .int .i64 l[k].v.n, .string l[k].v.t] 36)) #[] 0 (by simp) (by unfold maxLen; omega) rfl
              have LB : LiesF ((wx.alloc (.cells #[] 36)).alloc (.cells #[.string l[k].name, .int .i64 l[k].v.k, .int .i64 l[k].v.n, .string l[k].v.t] 36)) (wx.heap.size + 1) l[k] := by have := heap_alloc_new (wx.alloc (.cells #[] 36)) (.cells #[.string l[k].name, .int .i64 l[k].v.k, .int .i64 l[k].v.n, .string l[k].v.t] 36); rw [heap_size_alloc] at this; exact this
              have LC : LiesF ((wx.alloc (.cells #[.string l[k].name, .int .i64 l[k].v.k, .int .i64 l[k].v.n, .string l[k].v.t] 36)).alloc (.cells #[] 36)) wx.heap.size l[k] := by rw [LiesF, heap_alloc_old _ _ (by simp)]; exact heap_alloc_new _ _
              simp only [heap_size_alloc] at OC
              have HOA : Hid (World.ownsRow _ _ _ _ _ _ _) := OA
              have HOB : Hid (World.ownsRow _ _ _ _ _ _ _) := OB
              have HOC : Hid (World.ownsRow _ _ _ _ _ _ _) := OC
              have HLB : Hid (LiesF _ _ _) := LB
              have HLC : Hid (LiesF _ _ _) := LC
              have hk1 : (j : Int) ≤ (acc.length : Int) := by omega
              have hk2 : (j : Int) ≤ (c : Int) := by omega
              have HF3 : Hid (FB wx _ l[k]) := F3
              have HF4 : Hid (_ = _) := HF.out.trans (foldD_next acc l k j hlt HS.out HV.out HG.out.rise HP.out)
              clear hW BX F3 O3 OA OB OC LB LC
              by_cases hcj : c = j
              all_goals
                go_region_law (first
                  | (refine step_appF rfl (.tmp 68) (.tmp 71) rfl wx.heap.size 0 _ [] rfl (by first | exact HOA.out | exact HOB.out | exact HOC.out) ⟨gO, 0, none⟩ j _ (flatF (acc.take j)) rfl (by rw [flatF_len, List.length_take]; omega) (srcT HSRC.out hgx hj (by (repeat (first | (with_reducible exact Below.refl _ _) | (with_reducible assumption) | (with_reducible apply below_drewN) | (with_reducible apply Below.drew) | ((with_reducible refine Below.setCell ?_ ?_ _); rotate_left; focus (first | (simp; done) | (simp; omega) | omega)) | ((with_reducible refine Below.alloc ?_ ?_ _); rotate_left; focus (first | (simp; done) | (simp; omega) | omega)))))) (flatF_one _) (by omega) (by omega) (by first | (simp; done) | (simp; omega)) ?_; intro v1 w1' o1 g1 n1; have b1 : Below wx.heap.size wx w1' := Below.grown (by (repeat (first | (with_reducible exact Below.refl _ _) | (with_reducible assumption) | (with_reducible apply below_drewN) | (with_reducible apply Below.drew) | ((with_reducible refine Below.setCell ?_ ?_ _); rotate_left; focus (first | (simp; done) | (simp; omega) | omega)) | ((with_reducible refine Below.alloc ?_ ?_ _); rotate_left; focus (first | (simp; done) | (simp; omega) | omega))))) g1 (by first | (simp; done) | (simp; omega)) (fun q hq => by first | exact (HOA.out.lt q hq).1 | exact (HOB.out.lt q hq).1 | exact (HOC.out.lt q hq).1); have hz1 := b1.size; have F4 := HF3.out.next b1; have f0 := F4.c0; have f1 := F4.c1; have f2 := F4.c2; have f3 := F4.c3; have hf4 := F4.lt; (first | have L1 : Hid (LiesF w1' _ l[k]) := liesF_grow2 (b := wx.heap.size) (vb := wx.heap.size + 1) g1 rfl HLB.out (by omega) | have L1 : Hid (LiesF w1' _ l[k]) := liesF_grow2 (b := wx.heap.size + 1) (vb := wx.heap.size) g1 rfl HLC.out (by omega) | skip); have H1 : Hid (World.ownsRow _ _ _ _ _ _ _) := o1; have HB2 : Hid (Below _ _ _) := b1; clear o1 g1 n1 b1 F4)
                  | (refine step_appF rfl (.tmp 72) (.tmp 74) rfl wx.heap.size (0 + j) v1 ([] ++ flatF (acc.take j)) rfl (by first | exact H1.out | exact H1.out.alloc _) _ 1 1 (rowF l[k]) rfl rfl (by first | exact liesF_cells (heap_alloc_new _ _) | exact liesF_cells L1.out) (rowF_one _) (by omega) (by omega) (by first | exact hz1 | (simp; omega)) ?_; intro v2 w2' o2 g2 n2; have b2 : Below wx.heap.size wx w2' := Below.grown (by first | exact HB2.out | exact HB2.out.alloc hz1 _) g2 (by first | exact hz1 | (simp; omega)) (fun q hq => (H1.out.lt q hq).1); have hz2 := b2.size; have H2 : Hid (World.ownsRow _ _ _ _ _ _ _) := o2; have HB3 : Hid (Below _ _ _) := b2; have N2 : Hid (¬ v2 = .slice none 0 0) := (fun h => absurd (n2.mp h).2 (by decide)); clear o2 g2 n2 b2)
                  | (refine step_appF rfl (.tmp 75) (.tmp 78) rfl wx.heap.size (0 + j + 1) v2 ([] ++ flatF (acc.take j) ++ rowF l[k]) rfl H2.out _ (acc.length - j) _ (flatF (acc.drop j)) rfl (by rw [flatF_len, List.length_drop]) (by first | exact srcD HSRC.out hgx hj HB3.out | (intro p u hp; rw [List.drop_of_length_le (by omega)] at hp; simp [flatF] at hp)) (flatF_one _) (by omega) (by omega) hz2 ?_; intro v3 w3' o3 g3 n3; have b3 : Below wx.heap.size wx w3' := Below.grown HB3.out g3 hz2 (fun q hq => (H2.out.lt q hq).1); have H3 : Hid (World.ownsRow _ _ _ _ _ _ _) := row3 hj o3; have HB4 : Hid (Below _ _ _) := b3; have N3 : Hid (¬ v3 = .slice none 0 0) := (fun h => N2.out (n3.mp h).1); clear o3 g3 n3 b3))
                all_goals
                  go_wp2_with fail
                  go_roundw
                  case rel => exact ⟨k + 1, insL acc j l[k], by omega, by go_num, by rw [insL_len _ _ _ hj, HAL.out], HG.out.ins HS.out HV.out HP.out, HF4.out, owns_base H3.out hzb, N3.out, HBX.out.trans (HB4.out.mono hzb)⟩
                  case measure => simp [intOf]; omega
    · have E : Hid (_ = _) := HF.out.trans (foldD_end acc l k (by omega))
      have RO := ReadF.of_own HO.out
      go_wp2_with fail
      refine (l01Doc_any gO c acc _ RO hac HG.out.names).mono ?_
      rintro e w1 ⟨rfl, hb1⟩
      have HY1 : Hid (Res3 _ _ _ _ _) := HX1.out.step hb1
      clear hb1 RO
      go_wp2_with fail
      refine (l01Fit_doc acc _ hac HG.out).mono ?_
      rintro e w2 ⟨rfl, hb2⟩
      have Y := HY1.out.step hb2
      have g0 := Y.c0
      have g1 := Y.c1
      have g2 := Y.c2
      have z0 := Y.z0
      have z1 := Y.z1
      have z2 := Y.z2
      have hltY := Y.lt
      have hbw := Y.bel
      clear hb2 Y
      go_wp2_with fail
      refine bodyPost_ret (v := .tuple #[aggV (fitD acc).1, .int .i64 (fitD acc).2]) (by simp [results, Try.results22, go_sem, *]) rfl (EndsD.ok acc E.out rfl ?_)
      (repeat (first | (with_reducible exact Below.refl _ _) | (with_reducible assumption) | (with_reducible apply below_drewN) | (with_reducible apply Below.drew) | ((with_reducible refine Below.setCell ?_ ?_ _); rotate_left; focus (first | (simp; done) | (simp; omega) | omega)) | ((with_reducible refine Below.alloc ?_ ?_ _); rotate_left; focus (first | (simp; done) | (simp; omega) | omega))))

end Go.Proofs.Ytklicfcafpehfaa
