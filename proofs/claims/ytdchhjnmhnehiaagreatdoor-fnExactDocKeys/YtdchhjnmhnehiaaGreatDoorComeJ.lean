/- What the program's way along a path answers, for every right value and all names: through lists, and the whole of it. -/
import Derived.Test.YtdchhjnmhnehiaaGreatDoorComeI
namespace Go.Proofs.YtdchhjnmhnehiaaGreatDoor
open Go.RowKit
set_option linter.unusedVariables false

set_option maxRecDepth 4000 in
set_option maxHeartbeats 2000000 in
theorem items_come (nm : ByteArray) (ws : List ByteArray) (ih : ComeAt ws) (d : Nat) (v : Val) (g off cap : Nat) (w : World) (h4 : v.k = 4) (hf : fits d v = true) (hr : ReadS w g off (nm :: ws)) (hws : ws.length ≤ 1000) (hcap : ws.length + 1 ≤ cap) :
    Calls Tryz.prog 122 #[.agg #[.int .i64 v.k, .int .i64 v.n, .string v.t], .slice (some ⟨g, off, none⟩) (ws.length + 1) cap] w fun e w' => RowO ((itms v).flatMap (fun it => if it.k = 5 then docP (getP ws) nm it else [])) w' e ∧ Below w.heap.size w w' := by
  obtain ⟨hs, hfi, hl, d', rfl, hall⟩ := list_parts d v hf h4
  have hsum := itms_sum v
  obtain ⟨i0, hi0, hz0, hz1, hz2⟩ := info_parts infoV
  obtain ⟨L, hL⟩ : ∃ L, L = itms v := ⟨_, rfl⟩
  rw [← hL] at hfi hall hl hsum ⊢
  have hsum' : (L.map (fun u => u.t.size)).sum ≤ 300 := Nat.le_trans hsum hs
  have hacc := fun k => Nat.le_trans (accP_len ws nm L k) hsum'
  obtain ⟨D, hD⟩ : ∃ D, D = L.flatMap (fun it => if it.k = 5 then docP (getP ws) nm it else []) := ⟨_, rfl⟩
  rw [← hD]
  have HD : Hid _ := hD
  have HA : Hid _ := hall
  have HF : Hid _ := hfi
  have HI : Hid (ComeAt _) := ih
  have HR : Hid (ReadS _ _ _ _) := hr
  have HACC : Hid _ := hacc
  have X0 := Boxed.start w (.int .i64 v.k) (.int .i64 v.n) (.string v.t) 38
  clear hD hall hfi ih hr hacc hL hf hsum h4
  go_enter Tryz.func122, Tryz.ntmps122
  go_wp2_with fail
  refine (itemsIn_row v.t L _ (by omega) HF.out).mono ?_
  rintro e w1 ⟨⟨p, cap1, rfl, R1⟩, hb⟩
  have hbw := (X0.step hb).bel
  have HBW : Hid _ := hbw
  have HR1 : Hid (RowV _ _ _) := R1
  have hgp : ∀ g1, p = some ⟨g1, 0, none⟩ → 0 < L.length → g1 < w1.heap.size := by
    intro g1 hp hl0
    rcases R1 with h0 | ⟨g2, hp2, R⟩
    · subst h0; simp at hl0
    · rw [hp] at hp2; injection hp2 with hp2; injection hp2 with hp2; subst hp2; exact R.lt
  have HGP : Hid _ := hgp
  clear hb X0 hbw R1 hgp
  go_wp2_with fail
  go_loopw [5, 12] (fun u i wr => ∃ q : Nat, q ≤ L.length ∧ i = .int .i64 q ∧ wr.ownsRow w.heap.size 38 3 u (accP (getP ws) nm L q).length (flat (accP (getP ws) nm L q)) ∧ (∀ k, u.ownBlock = some k → w1.heap.size ≤ k) ∧ RowV wr p L ∧ w1.heap.size ≤ wr.heap.size ∧ Below w.heap.size w wr) (fun _ i _ => L.length - (intOf i).toNat)
  case atStart => exact ⟨0, Nat.zero_le _, rfl, World.ownsRow_nil _ _ _ _, (fun k hk => by cases hk), HR1.out, Nat.le_refl _, HBW.out⟩
  case round =>
    obtain ⟨q, hq, rfl, hown, hown2, hR, hz1w, hbel⟩ := hrel
    have HB2 : Hid _ := hown2
    have hz := hbel.size
    clear hown2
    by_cases hlt : q < L.length
    · rcases hR with h0 | ⟨g1, rfl, R⟩
      · subst h0; simp at hlt
      obtain ⟨x0, x1, x2⟩ := R.cells q hlt
      have hgl := R.lt
      have hg1 := HGP.out g1 rfl (by omega)
      have hlen1 := HACC.out q
      have hlen2 := HACC.out (q + 1)
      have hsucc := accP_succ (getP ws) nm L q hlt
      have hlt2 : (q : Int) < (L.length : Int) := by omega
      by_cases h5 : L[q].k = 5
      · rw [if_pos h5] at hsucc
        have e5 : (L[q].k == 5) = true := by simp [h5]
        have hdl : (docP (getP ws) nm L[q]).length ≤ 300 := by rw [hsucc, List.length_append] at hlen2; omega
        have HS : Hid _ := hsucc
        have H5 : Hid _ := h5
        have hba : Below w.heap.size w (wr.alloc (.cells #[.int .i64 L[q].k, .int .i64 L[q].n, .string L[q].t] 38)) := hbel.alloc hz _
        have HRW : Hid (ReadS _ _ _ _) := HR.out.next hba
        have HRV : Hid (ReadV _ _ _) := R.next ((Below.refl _ _).alloc (Nat.le_refl _) (.cells #[.int .i64 L[q].k, .int .i64 L[q].n, .string L[q].t] 38))
        have HOW : Hid (World.ownsRow _ _ _ _ _ _ _) := hown.alloc (.cells #[.int .i64 L[q].k, .int .i64 L[q].n, .string L[q].t] 38)
        clear hsucc h5 hlen2 R hown
        go_wp2_with fail
        refine (field_come nm ws HI.out d' L[q] g off cap _ H5.out (HA.out L[q] (List.getElem_mem _)).1 HRW.out hws hcap).mono ?_
        rintro e w2 ⟨hO, hb⟩
        have O3 := owns_below HOW.out hb
        have R3 := HRV.out.next hb
        have hb2 : Below w.heap.size w w2 := hba.trans (hb.mono hba.size)
        have hzw := hb2.size
        have hzw1 : w1.heap.size ≤ w2.heap.size := by have := hb.size; simp at this; omega
        clear hb hba
        rcases hO with ⟨rfl, hnil⟩ | ⟨g2, cap2, rfl, R2⟩
        · have hsame : accP (getP ws) nm L (q + 1) = accP (getP ws) nm L q := by rw [HS.out, hnil, List.append_nil]
          have HSA : Hid _ := hsame
          clear hnil hsame HS hdl
          go_wp2_with (at_builtin; refine wpList_append_own_none rfl (.tmp 19) (.tmp 22) 107 rfl w.heap.size 38 i0 3 Tryz.underlying107 hi0 _ _ _ rfl O3 rfl ?_)
          have HO3 : Hid (World.ownsRow _ _ _ _ _ _ _) := O3
          have HR3 : Hid (ReadV _ _ _) := R3
          clear O3 R3
          go_wp2_with fail
          go_roundw
          case rel => exact ⟨q + 1, by omega, by go_num, by rw [HSA.out]; exact HO3.out, HB2.out, .inr ⟨g1, rfl, HR3.out⟩, hzw1, hb2⟩
          case measure => simp [intOf]; omega
        · go_wp2_with (at_builtin; refine wpList_append_own_at _ rfl (.tmp 19) (.tmp 22) 107 rfl w.heap.size 38 i0 (.agg #[.int .i64 0, .int .i64 0, .string em]) 3 32 Tryz.underlying107 hi0 hz0 hz1 hz2 rfl (by decide) _ _ _ rfl O3 ⟨g2, 0, none⟩ (docP (getP ws) nm L[q]).length cap2 (flat (docP (getP ws) nm L[q])) rfl (flat_len _) R2.flat (flat_one _) ?c3 ?c4 hzw ?_)
          case c3 => unfold maxLen; omega
          case c4 => omega
          intro v' w3 hown4 hgrow hnv hat
          have hne : ∀ k, v'.ownBlock = some k → w1.heap.size ≤ k := by
            intro k hk
            rcases hat with e | e
            · exact HB2.out k (e ▸ hk)
            · rw [e] at hk; injection hk with hk; omega
          have R4 := R3.grown hgrow (fun e => by have := HB2.out g1 e.symm; omega)
          have hb4 : Below w.heap.size w w3 := Below.grown hb2 hgrow hzw (owns_block O3)
          have hz4 := hgrow.size
          rw [← flat_app, ← List.length_append, ← HS.out] at hown4
          have HO4 : Hid (World.ownsRow _ _ _ _ _ _ _) := hown4
          have HNE : Hid _ := hne
          have HR4 : Hid (ReadV _ _ _) := R4
          clear hgrow hat hown4 hne R4 R3 O3 R2 hnv
          go_wp2_with fail
          go_roundw
          case rel => exact ⟨q + 1, by omega, by go_num, HO4.out, HNE.out, .inr ⟨g1, rfl, HR4.out⟩, by omega, hb4⟩
          case measure => simp [intOf]; omega
      · rw [if_neg h5, List.append_nil] at hsucc
        have e5 : (L[q].k == 5) = false := beq_eq_false_iff_ne.mpr h5
        have HS : Hid _ := hsucc
        have HRV : Hid (ReadV _ _ _) := R.next ((Below.refl _ _).alloc (Nat.le_refl _) (.cells #[.int .i64 L[q].k, .int .i64 L[q].n, .string L[q].t] 38))
        have HOW : Hid (World.ownsRow _ _ _ _ _ _ _) := hown.alloc (.cells #[.int .i64 L[q].k, .int .i64 L[q].n, .string L[q].t] 38)
        clear hsucc h5 R hown
        go_wp2_with fail
        go_roundw
        case rel => exact ⟨q + 1, by omega, by go_num, by rw [HS.out]; exact HOW.out, HB2.out, .inr ⟨g1, rfl, HRV.out⟩, by simp; omega, by (repeat (first | (with_reducible exact Below.refl _ _) | (with_reducible assumption) | (with_reducible apply below_drewN) | (with_reducible apply Below.drew) | ((with_reducible refine Below.setCell ?_ ?_ _); rotate_left; focus (first | (simp; done) | (simp; omega) | omega)) | ((with_reducible refine Below.alloc ?_ ?_ _); rotate_left; focus (first | (simp; done) | (simp; omega) | omega))))⟩
        case measure => simp [intOf]; omega
    · have hlt2 : ¬ (q : Int) < (L.length : Int) := by omega
      rw [accP_full _ _ _ _ (by omega), ← HD.out] at hown
      by_cases hn : u5 = .slice none 0 0
      · subst hn
        have hd0 : D = [] := by
          obtain ⟨_, h2⟩ := hown
          rcases h2 with ⟨_, h3⟩ | ⟨g', c', cur, e, _⟩
          · exact List.eq_nil_of_length_eq_zero (by simpa using h3)
          · cases e
        have HD0 : Hid _ := hd0
        clear hown HB2 hR hd0
        go_wp2_with fail
        go_ret
        exact ⟨RowO.nil rfl HD0.out, hbel⟩
      · obtain ⟨g3, cap3, hv⟩ := owns_shape hown hn
        subst hv
        have R := ReadV.of_own hown
        have HR5 : Hid (ReadV _ _ _) := R
        clear R hown HB2 hn hR
        go_wp2_with fail
        go_ret
        exact ⟨RowO.mk g3 cap3 rfl HR5.out, hbel⟩

set_option maxRecDepth 4000 in
set_option maxHeartbeats 1000000 in
theorem come_cons (nm : ByteArray) (ws : List ByteArray) (ih : ComeAt ws) (hws : ws.length ≤ 1000) : ComeAt (nm :: ws) := by
  intro d v g off cap w hf hs hcap hr
  rw [List.length_cons] at hcap ⊢
  have X0 := Boxed.start w (.int .i64 v.k) (.int .i64 v.n) (.string v.t) 38
  have HR : Hid (ReadS _ _ _ _) := hr.next X0.bel
  have hnz : (((ws.length : Int) + 1) == 0) = false := beq_eq_false_iff_ne.mpr (by omega)
  clear hr
  by_cases h5 : v.k = 5
  · rw [getP_doc nm ws v h5]
    have e5 : (v.k == 5) = true := by simp [h5]
    have HC : Hid (∀ W : World, ReadS W g off (nm :: ws) → Calls _ _ _ W _) := fun W hW => field_come nm ws ih d v g off cap W h5 hf hW hws hcap
    obtain ⟨D, hD⟩ : ∃ D, D = docP (getP ws) nm v := ⟨_, rfl⟩
    rw [← hD] at HC ⊢
    clear hf h5 hD
    go_enter Tryz.func96, Tryz.ntmps96
    go_wp2_with fail
    refine (HC.out _ HR.out).mono ?_
    rintro e w1 ⟨hO, hb⟩
    have HB : Hid _ := (X0.step hb).bel
    have HO : Hid (RowO _ _ _) := hO
    obtain ⟨p, c, rfl, _⟩ := hO.row
    clear hb hO
    go_wp2_with fail
    go_ret
    exact ⟨HO.out, HB.out⟩
  have e5 : (v.k == 5) = false := beq_eq_false_iff_ne.mpr h5
  by_cases h4 : v.k = 4
  · rw [getP_list nm ws v h4]
    have e4 : (v.k == 4) = true := by simp [h4]
    have HC : Hid (∀ W : World, ReadS W g off (nm :: ws) → Calls _ _ _ W _) := fun W hW => items_come nm ws ih d v g off cap W h4 hf hW hws hcap
    obtain ⟨D, hD⟩ : ∃ D, D = (itms v).flatMap (fun it => if it.k = 5 then docP (getP ws) nm it else []) := ⟨_, rfl⟩
    rw [← hD] at HC ⊢
    clear hf h4 hD
    go_enter Tryz.func96, Tryz.ntmps96
    go_wp2_with fail
    refine (HC.out _ HR.out).mono ?_
    rintro e w1 ⟨hO, hb⟩
    have HB : Hid _ := (X0.step hb).bel
    have HO : Hid (RowO _ _ _) := hO
    obtain ⟨p, c, rfl, _⟩ := hO.row
    clear hb hO
    go_wp2_with fail
    go_ret
    exact ⟨HO.out, HB.out⟩
  rw [getP_none nm ws v h5 h4]
  have e4 : (v.k == 4) = false := beq_eq_false_iff_ne.mpr h4
  clear hf
  go_enter Tryz.func96, Tryz.ntmps96
  go_wp2_with fail
  go_ret
  exact ⟨RowO.nil rfl rfl, X0.bel⟩
theorem come_at : ∀ ws : List ByteArray, ws.length ≤ 1000 → ComeAt ws
  | [], _ => come_end
  | nm :: ws, h => come_cons nm ws (come_at ws (by simp at h; omega)) (by simp at h; omega)

end Go.Proofs.YtdchhjnmhnehiaaGreatDoor
